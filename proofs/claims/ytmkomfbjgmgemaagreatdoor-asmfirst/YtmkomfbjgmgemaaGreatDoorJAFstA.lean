import Derived.Test.YtmkomfbjgmgemaaGreatDoorJAIn
/-
  A PROCEDURE's FIRST LINE: the two rows grow.
-/
namespace Go.Proofs.YtmkomfbjgmgemaaGreatDoor
open Go.RowKit Go.Sort

/-- the four numbers' box -/
def n4 (ns : List Int) : Array Value := #[.int .i64 (ns.getD 0 0), .int .i64 (ns.getD 1 0), .int .i64 (ns.getD 2 0), .int .i64 (ns.getD 3 0)]
/-- what stays: all but the box and the blocks of one kind -/
structure FrT (M B : Nat) (t0 : TypeId) (W W' : World) : Prop where
  fr : FrA M B W W'
  cl : ∀ (k : Nat) (cur : Array Value) (t : TypeId), W.heap[k]? = some (.cells cur t (0, 0)) → t ≠ t0 → t ≠ 53 → W'.heap[k]? = some (.cells cur t (0, 0))
theorem app_box {TS TE : TypeId} {sz bt : Nat} {z : Value} (hu : Tryz.prog.underlying TS = some (.slice TE)) (hinfo : (Tryz.prog.info? TE).map (fun i => (i.zero, i.size, i.bytes)) = some (some z, sz, bt)) (hzs : z.cells.size = sz) (hpos : 0 < sz) (hbt : bt ≤ 100) (hTE : TE ≠ 53) {W : World} {M B line : Nat} {a : As} {Ps : List Pr} {vl vn vm vj : Value} (hA : ASt W M B line a Ps vl vn vm vj) (i : Nat) (v : Value) (n : Nat) (xs zs : List Value) (hown : W.ownsRow M TE sz v n xs) (hz : zs.length = sz) (h1 : ∀ u ∈ zs, u.oneCell' = true) (hn : n ≤ 65537) (ty : TypeId) :
    ∃ v' w', (Builtin.append_ #[TS, TS] ty #[v, .slice (some ⟨W.heap.size, 0, none⟩) 1 1]).run Tryz.prog (W.alloc (.cells zs.toArray TE)) = .ok v' w' ∧ w'.ownsRow M TE sz v' (n + 1) (xs ++ zs) ∧ (W.alloc (.cells zs.toArray TE)).grownBy w' v.ownBlock ∧ (∃ o n c, v' = .slice o n c) ∧ w'.heap[B]? = W.heap[B]? ∧ FrT M B TE W w' ∧ FrT M B TE W (w'.setCell ⟨B, i, none⟩ v') := by
  obtain ⟨v', w', p1, p2, p3, _⟩ := app_one hu hinfo hzs hpos hbt W M v n xs zs hown hz h1 hn hA.bm.2 ty
  have hAl := hA.below (bel_al W (.cells zs.toArray TE))
  have hown' : (W.alloc (.cells zs.toArray TE)).ownsRow M TE sz v n xs := World.ownsRow.alloc hown _
  have hne : ∀ (k : Nat) (cur : Array Value) (t : TypeId), W.heap[k]? = some (.cells cur t (0, 0)) → t ≠ TE → w'.heap[k]? = some (.cells cur t (0, 0)) := fun k cur t hk ht => by
    have hk' : (W.alloc (.cells zs.toArray TE)).heap[k]? = some (.cells cur t (0, 0)) := (heap_alloc_old _ _ (Array.getElem?_eq_some_iff.1 hk).1).trans hk
    refine (p3.block k (Array.getElem?_eq_some_iff.1 hk').1 (fun e1 => ?_)).trans hk'
    obtain ⟨cur', hc⟩ := own_blk hown' e1.symm
    rw [hk'] at hc
    simp only [Option.some.injEq, Obj.cells.injEq] at hc
    exact ht hc.2.1
  have hFr : FrA M B W w' := (FrA.bel (bel_al W (.cells zs.toArray TE)) hA.bm.2).trans (FrA.grown p3 hAl.bm.2 (fun k e => (World.ownsRow.lt hown' k e).1))
  have hB : w'.heap[B]? = W.heap[B]? := (hne B _ _ hA.ab hTE.symm).trans hA.ab.symm
  refine ⟨v', w', p1, p2, p3, ?_, hB, ⟨hFr, fun k cur t hk h1 _ => hne k cur t hk h1⟩, ⟨hFr.trans (FrA.set _ _ (.inl rfl)), fun k cur t hk h1 h2 => ?_⟩⟩
  · obtain ⟨o, c, e, _⟩ := own_slice p2
    exact ⟨o, _, c, e⟩
  · refine (heap_setCell_other _ _ _ _ (fun e => ?_)).trans (hne k cur t hk h1)
    have e' : k = B := e
    rw [e', hA.ab] at hk
    simp only [Option.some.injEq, Obj.cells.injEq] at hk
    exact h2 hk.2.1.symm
/-- what is there between the first line's steps -/
structure FMid (W0 W : World) (M B line : Nat) (a : As) (Ps : List Pr) (vl vn vm vj : Value) (r b5 : Nat) (rd : Rd) (nm : Wd) (ns : List Int) : Prop where
  st : ASt W M B line a Ps vl vn vm vj
  fr : FrA M B W0 W
  rb : RB (ZA M B) W r rd
  wb : WB W b5 (.string (S nm.1)) (.int .i64 (nm.2 : Int))
  nb : W.heap[b5 + 1]? = some (.cells (n4 ns) 114 (0, 0))
section
variable {W0 W W' : World} {M B line : Nat} {a a' : As} {Ps Ps' : List Pr} {vl vn vm vj vl' vn' vm' vj' : Value} {r b5 : Nat} {rd : Rd} {nm : Wd} {ns : List Int}
theorem FMid.below (h : FMid W0 W M B line a Ps vl vn vm vj r b5 rd nm ns) (hb : Go.RowKit.Below W.heap.size W W') : FMid W0 W' M B line a Ps vl vn vm vj r b5 rd nm ns :=
  ⟨h.st.below hb, h.fr.trans (FrA.bel hb h.st.bm.2), h.rb.kept hb, (hb.block b5 (Array.getElem?_eq_some_iff.1 h.wb).1).trans h.wb, (hb.block (b5 + 1) (Array.getElem?_eq_some_iff.1 h.nb).1).trans h.nb⟩
theorem FMid.frt (h : FMid W0 W M B line a Ps vl vn vm vj r b5 rd nm ns) {t0 : TypeId} (hf : FrT M B t0 W W') (h0 : t0 = 49 ∨ t0 = 38) (hs : ASt W' M B line a' Ps' vl' vn' vm' vj') : FMid W0 W' M B line a' Ps' vl' vn' vm' vj' r b5 rd nm ns :=
  ⟨hs, h.fr.trans hf.fr, h.rb.fra hf.fr (by
    obtain ⟨a1, c1, h1, _⟩ := h.rb
    rw [h1]
    exact hf.cl r _ _ h1 (by rcases h0 with rfl | rfl <;> decide) (by decide)), hf.cl b5 _ _ h.wb (by rcases h0 with rfl | rfl <;> decide) (by decide), hf.cl (b5 + 1) _ _ h.nb (by rcases h0 with rfl | rfl <;> decide) (by decide)⟩
end
/-- the cells that the first line's rows are made of -/
def FS (W : World) (b5 : Nat) (nm : Wd) (n0 n1 n2 n3 : Int) : Prop := W.cell? ⟨b5, 0, none⟩ = some (.string (S nm.1)) ∧ W.cell? ⟨b5, 1, none⟩ = some (.int .i64 (nm.2 : Int)) ∧ W.cell? ⟨b5 + 1, 0, none⟩ = some (.int .i64 n0) ∧ W.cell? ⟨b5 + 1, 1, none⟩ = some (.int .i64 n1) ∧ W.cell? ⟨b5 + 1, 2, none⟩ = some (.int .i64 n2) ∧ W.cell? ⟨b5 + 1, 3, none⟩ = some (.int .i64 n3)
theorem fs_of {W : World} {b5 : Nat} {nm : Wd} {n0 n1 n2 n3 : Int} (h1 : WB W b5 (.string (S nm.1)) (.int .i64 (nm.2 : Int))) (h2 : W.heap[b5 + 1]? = some (.cells (n4 [n0, n1, n2, n3]) 114 (0, 0))) : FS W b5 nm n0 n1 n2 n3 := by
  obtain ⟨z0, z1, _⟩ := h1.cells
  refine ⟨z0, z1, ?_, ?_, ?_, ?_⟩ <;> simp [World.cell?, h2, n4]
theorem FS.frt {W W' : World} {M B b5 : Nat} {t0 : TypeId} {nm : Wd} {n0 n1 n2 n3 : Int} (hf : FrT M B t0 W W') (h0 : t0 = 49 ∨ t0 = 38) (h1 : WB W b5 (.string (S nm.1)) (.int .i64 (nm.2 : Int))) (h2 : W.heap[b5 + 1]? = some (.cells (n4 [n0, n1, n2, n3]) 114 (0, 0))) : FS W' b5 nm n0 n1 n2 n3 :=
  fs_of (hf.cl b5 _ _ h1 (by rcases h0 with rfl | rfl <;> decide) (by decide)) (hf.cl (b5 + 1) _ _ h2 (by rcases h0 with rfl | rfl <;> decide) (by decide))
/-- the names' row grows -/
theorem named_run {W0 W : World} {M B line : Nat} {a : As} {Ps : List Pr} {vl vm vj : Value} {no : Option Addr} {nn nc : Nat} {r b5 : Nat} {rd : Rd} {nm : Wd} {n0 n1 n2 n3 : Int} (h : FMid W0 W M B line a Ps vl (.slice no nn nc) vm vj r b5 rd nm [n0, n1, n2, n3]) (hz : a.names.length ≤ 65537) (ty : TypeId) :
    ∃ v' w', (Builtin.append_ #[47, 47] ty #[.slice no nn nc, .slice (some ⟨W.heap.size, 0, none⟩) 1 1]).run Tryz.prog (W.alloc (.cells #[.int .i64 (line : Int), .int .i64 (nm.2 : Int)] 49)) = .ok v' w' ∧ (∃ o n c, v' = .slice o n c) ∧ w'.cell? ⟨B, 2, none⟩ = some (.slice no nn nc) ∧ w'.frozen? ⟨B, 2, none⟩ = false ∧ FS w' b5 nm n0 n1 n2 n3 ∧ FS (w'.setCell ⟨B, 2, none⟩ v') b5 nm n0 n1 n2 n3 ∧ FMid W0 (w'.setCell ⟨B, 2, none⟩ v') M B line { a with names := a.names ++ [(line, nm.2)] } Ps vl v' vm vj r b5 rd nm [n0, n1, n2, n3] := by
  obtain ⟨v', w', p1, p2, p3, p4, p5, p6, p7⟩ := app_box Tryz.underlying47 infoSp rfl (by decide) (by decide) (by decide) h.st 2 (.slice no nn nc) a.names.length (spc a.names) (spc [(line, nm.2)]) h.st.nms rfl (spc_one _) hz ty
  have hAB : AB w' B line vl (.slice no nn nc) a.opn a.begun.1 a.begun.2 vm vj := p5.trans h.st.ab
  exact ⟨v', w', p1, p4, hAB.cells.2.2.1, hAB.frozen 2, FS.frt p6 (.inl rfl) h.wb h.nb, FS.frt p7 (.inl rfl) h.wb h.nb, h.frt p7 (.inl rfl) ((h.st.below (bel_al _ _)).named (line, nm.2) p2 p3)⟩
/-- the procedures' row grows -/
theorem proc_run {W0 W : World} {M B line : Nat} {a : As} {Ps : List Pr} {vn vm vj : Value} {no : Option Addr} {nn nc : Nat} {r b5 : Nat} {rd : Rd} {nm : Wd} {n0 n1 n2 n3 : Int} (h : FMid W0 W M B line a Ps (.slice no nn nc) vn vm vj r b5 rd nm [n0, n1, n2, n3]) (hz : a.lib.length ≤ 65537) (hk : NIn ⟨n0, n1, n2, n3⟩ ∧ nm.1.length ≤ 65536) (ty : TypeId) :
    ∃ v' w', (Builtin.append_ #[23, 23] ty #[.slice no nn nc, .slice (some ⟨W.heap.size, 0, none⟩) 1 1]).run Tryz.prog (W.alloc (.cells #[.string (S nm.1), .int .i64 n0, .int .i64 n1, .int .i64 n2, .int .i64 n3, .slice none 0 0] 38)) = .ok v' w' ∧ (∃ o n c, v' = .slice o n c) ∧ w'.cell? ⟨B, 1, none⟩ = some (.slice no nn nc) ∧ w'.frozen? ⟨B, 1, none⟩ = false ∧ FS w' b5 nm n0 n1 n2 n3 ∧ FS (w'.setCell ⟨B, 1, none⟩ v') b5 nm n0 n1 n2 n3 ∧ FMid W0 (w'.setCell ⟨B, 1, none⟩ v') M B line { a with lib := a.lib ++ [⟨nm.1, ⟨n0, n1, n2, n3⟩, []⟩] } (Ps ++ [(⟨S nm.1, ⟨n0, n1, n2, n3⟩, none, 0, 0, []⟩ : Pr)]) v' vn vm vj r b5 rd nm [n0, n1, n2, n3] := by
  have hl : Ps.length = a.lib.length := by rw [h.st.eq, List.length_map]
  obtain ⟨v', w', p1, p2, p3, p4, p5, p6, p7⟩ := app_box Tryz.underlying23 infoP rfl (by decide) (by decide) (by decide) h.st 1 (.slice no nn nc) Ps.length (prcs Ps) (prcs [(⟨S nm.1, ⟨n0, n1, n2, n3⟩, none, 0, 0, []⟩ : Pr)]) h.st.lib rfl (prcs_one _) (by omega) ty
  have hAB : AB w' B line (.slice no nn nc) vn a.opn a.begun.1 a.begun.2 vm vj := p5.trans h.st.ab
  have ho : OwnP w' M v' (Ps ++ [(⟨S nm.1, ⟨n0, n1, n2, n3⟩, none, 0, 0, []⟩ : Pr)]) := by unfold OwnP; rw [List.length_append, prcs_append]; exact p2
  have e1 : ppOf (⟨S nm.1, ⟨n0, n1, n2, n3⟩, none, 0, 0, []⟩ : Pr) = ⟨nm.1, ⟨n0, n1, n2, n3⟩, []⟩ := by unfold ppOf; rw [S_data]
  have hst := (h.st.below (bel_al _ _)).proc (⟨S nm.1, ⟨n0, n1, n2, n3⟩, none, 0, 0, []⟩ : Pr) ho p3 ⟨rfl, rfl, rfl, rfl⟩ ⟨hk.1, by rw [S_size]; exact hk.2⟩
  rw [e1] at hst
  exact ⟨v', w', p1, p4, hAB.cells.2.1, hAB.frozen 1, FS.frt p6 (.inr rfl) h.wb h.nb, FS.frt p7 (.inr rfl) h.wb h.nb, h.frt p7 (.inr rfl) hst⟩
end Go.Proofs.YtmkomfbjgmgemaaGreatDoor
