import Derived.Test.YtkmafpfldnapjaaGreatDoorKLProc
import Derived.Test.YtkmafpfldnapjaaGreatDoorKReader
import Derived.Laws.IdiomStrings
import Derived.Lib.SlBytesConst
import Derived.Lib.AppendStr
import Derived.Test.YtkmafpfldnapjaaGreatDoorKWriter
import Derived.Test.YtkmafpfldnapjaaGreatDoorKAAssem
/-
  THE WALK OF Encode.
-/
namespace Go.Proofs.YtkmafpfldnapjaaGreatDoor
open Go.RowKit Go.Sort

/-- a text's bytes -/
def nmB (s : ByteArray) : List Nat := s.data.toList.map (·.toNat)
theorem nmB_length (s : ByteArray) : (nmB s).length = s.size := by simp [nmB]
theorem nmB_lt (s : ByteArray) : ∀ z ∈ nmB s, z < 256 := by
  intro z hz
  obtain ⟨b, _, rfl⟩ := List.mem_map.1 hz
  exact b.toNat_lt
/-- '[]byte(s)' -/
theorem conv_bytes (w : World) (s : ByteArray) : ∃ cap W', (convert 9 46 (.string s)).run Tryz.prog w = .ok (.slice (some ⟨w.heap.size, 0, none⟩) s.size cap) W' ∧
    BytesAt W' (some ⟨w.heap.size, 0, none⟩) (nmB s) ∧ Below w.heap.size w W' ∧ W'.heap.size = w.heap.size + 1 := by
  refine ⟨_, _, run_bytes_of_string w 9 46 5 s Tryz.underlying9 Tryz.underlying46 Tryz.underlying5, ?_, ?_, ?_⟩
  · refine ⟨nmB_lt s, .inr ⟨_, 0, rfl, fun j hj => ?_⟩⟩
    have hj' : j < s.data.size := by rw [nmB_length] at hj; exact hj
    have e := bytesRow_at s (grownCap w s.size 0 5) j hj'
    have hg : (nmB s).getD j 0 = s.data[j].toNat := by
      rw [List.getD_eq_getElem?_getD]; simp [nmB, Array.getElem?_eq_getElem hj']
    rw [hg, Nat.zero_add]
    show (World.alloc w.drew _).cell? ⟨w.drew.heap.size, j, none⟩ = _
    rw [World.cell?_alloc_mark]
    exact e
  · exact ⟨rfl, rfl, rfl, by show w.heap.size ≤ (w.heap.push _).size; rw [Array.size_push]; omega, fun k hk => by show ((w.heap.push _)[k]?) = _; rw [Array.getElem?_push_lt hk]; exact (Array.getElem?_eq_getElem hk).symm⟩
  · show (w.heap.push _).size = _; rw [Array.size_push]
/-- '[]byte("PRL1")' -/
theorem conv_head (w : World) : ∃ W', (convert 46 46 (.slice (some ⟨w.heap.size, 0, none⟩) 4 4)).run Tryz.prog (w.alloc (.cells #[.int .u8 80, .int .u8 82, .int .u8 76, .int .u8 49] 5)) = .ok (.slice (some ⟨w.heap.size, 0, none⟩) 4 4) W' ∧
    BytesAt W' (some ⟨w.heap.size, 0, none⟩) [80, 82, 76, 49] ∧ Below w.heap.size w W' := by
  refine ⟨_, Lib.run_convert_bytes_const (P := Tryz.prog) w 46 5 _ 4 4 Tryz.underlying46 Tryz.underlying5, ⟨by decide, .inr ⟨_, 0, rfl, fun j hj => ?_⟩⟩, ?_⟩
  · rw [Nat.zero_add, World.cell?_alloc_mark]
    have hj' : j < 4 := by simpa using hj
    obtain rfl | rfl | rfl | rfl : j = 0 ∨ j = 1 ∨ j = 2 ∨ j = 3 := by omega
    all_goals rfl
  · exact (Below.refl _ _).alloc (Nat.le_refl _) _
/-- a procedure's bytes -/
def procB (x : Pr) : List Nat := uint 10 x.name.size ++ nmB x.name ++ (writtenN x.p x.L).1
def procsB : List Pr → List Nat
  | [] => []
  | x :: Ps => procB x ++ procsB Ps
theorem procsB_append (A B : List Pr) : procsB (A ++ B) = procsB A ++ procsB B := by
  induction A with
  | nil => rfl
  | cons k A ih => simp [procsB, ih]
theorem procsB_take (Ps : List Pr) (k : Nat) (h : k < Ps.length) : procsB (Ps.take (k + 1)) = procsB (Ps.take k) ++ procB (pd Ps k) := by
  rw [pd_take Ps k h, procsB_append]; simp [procsB]
theorem procB_length (x : Pr) (h : x.name.size ≤ 31) : (procB x).length ≤ 3200 := by
  have h1 := uint_length 10 x.name.size
  have h2 := nmB_length x.name
  have h3 := written_length x.p x.L
  simp only [procB, List.length_append]; omega
theorem procsB_length : ∀ Ps : List Pr, (∀ x ∈ Ps, x.name.size ≤ 31) → (procsB Ps).length ≤ 3200 * Ps.length
  | [], _ => by simp [procsB]
  | x :: Ps, h => by
    have h1 := procB_length x (h x (by simp))
    have h2 := procsB_length Ps (fun y hy => h y (by simp [hy]))
    simp only [procsB, List.length_append, List.length_cons]; omega
def headL (n : Nat) : List Nat := [80, 82, 76, 49] ++ uint 10 n
/-- a sound library's bytes -/
def encN (Ps : List Pr) : List Nat := headL Ps.length ++ procsB Ps
theorem check_name {Ps : List Pr} (h : (checkN Ps).2 = 0) : Ps.length ≤ 64 ∧ ∀ i, i < Ps.length → chkOne Ps i = 0 := by
  by_cases hl : 64 < Ps.length
  · unfold checkN at h; rw [if_pos hl] at h; cases h
  · refine ⟨by omega, fun i => ?_⟩
    induction i using Nat.strongRecOn with
    | ind i ih =>
      intro hi
      by_cases h0 : chkOne Ps i = 0
      · exact h0
      · have := checkN_stop (by omega) (fun j hj => ih j hj (by omega)) h0 hi
        rw [this] at h; exact absurd h h0
theorem chk_zero {Ps : List Pr} {i : Nat} (h : chkOne Ps i = 0) : nameB (pd Ps i).name = true ∧ hasB (Ps.take i) (pd Ps i).name = false ∧ verifyN (pd Ps i).p (pd Ps i).L = 0 := by
  unfold chkOne at h
  split at h
  · cases h
  · rename_i hn
    refine ⟨?_, ?_, h⟩
    · cases e : nameB (pd Ps i).name with
      | true => rfl
      | false => exact absurd (.inl e) hn
    · cases e : hasB (Ps.take i) (pd Ps i).name with
      | false => rfl
      | true => exact absurd (.inr e) hn
theorem name_size {s : ByteArray} (h : nameB s = true) : 0 < s.size ∧ s.size ≤ 31 := by
  simp only [nameB, Bool.and_eq_true, decide_eq_true_eq] at h; exact ⟨h.1.1, h.1.2⟩
theorem check_small {Ps : List Pr} (h : (checkN Ps).2 = 0) : ∀ x ∈ Ps, x.name.size ≤ 31 := by
  intro x hx
  obtain ⟨i, hi, rfl⟩ := List.mem_iff_getElem.1 hx
  have := (chk_zero ((check_name h).2 i hi)).1
  have e : pd Ps i = Ps[i] := by simp [pd, List.getD_eq_getElem?_getD, List.getElem?_eq_getElem hi]
  rw [e] at this
  exact (name_size this).2
def EPost (Ps : List Pr) (B : Nat) (e : Ending) (w' : World) : Prop :=
  ((checkN Ps).2 ≠ 0 ∧ e = .returned (.tuple #[.slice none 0 0, .int .i64 (checkN Ps).2])) ∨
  ((checkN Ps).2 = 0 ∧ ∃ g, e = .returned (.tuple #[.slice (some ⟨g, 0, none⟩) (encN Ps).length (encN Ps).length, .int .i64 0]) ∧ RowAt w' g (encN Ps) ∧ B ≤ g)
/-- what stands while a library is written -/
structure ES (w W : World) (base r : Nat) (v : Value) (M : List Nat) : Prop where
  wr : IsWriter W base r v M
  bel : Below w.heap.size w W
  bs : w.heap.size ≤ base
theorem ES.kept {w W W' : World} {base r : Nat} {v : Value} {M : List Nat} (h : ES w W base r v M) (hb : Below W.heap.size W W') : ES w W' base r v M := ⟨h.wr.kept hb, h.bel.trans (hb.mono h.bel.size), h.bs⟩
theorem ES.step {w W W' : World} {base r : Nat} {v v' : Value} {M M' : List Nat} (h : ES w W base r v M) (hw : IsWriter W' base r v' M') (ht : Wrote W W' r v v') : ES w W' base r v' M' := ⟨hw, h.bel.trans ((ht.below h.wr).mono h.bs), h.bs⟩
/-- a block that is none of the Writer's -/
theorem Wrote.rbox {W W' : World} {r B : Nat} {v v' : Value} {x : Pr} (ht : Wrote W W' r v v') (h : RBox W B x) (h1 : B ≠ r) (h2 : v.ownBlock ≠ some B) : RBox W' B x := (ht.block B h.lt h1 h2).trans h

set_option maxRecDepth 100000 in
set_option maxHeartbeats 2000000 in
theorem encode_any (w : World) (ao : Option Addr) (n cap : Nat) (Ps : List Pr) (h : LibAt w ao Ps) (hn : n = Ps.length) (hc : n ≤ cap) (hm : n ≤ 140737488351232) :
    Calls Tryz.prog 18 #[.slice ao n cap] w fun e w' => EPost Ps w.heap.size e w' ∧ Below w.heap.size w w' := by
  have H : Hid (LibAt w ao Ps) := h
  have HN : Hid (n = Ps.length) := hn
  clear h hn
  go_enter Tryz.func18, Tryz.ntmps18
  go_wp2_with fail
  refine (check_any w ao n cap Ps H.out HN.out hc hm).mono ?_
  rintro e w1 ⟨rfl, hb1⟩
  have HB1 : Hid (Below w.heap.size w w1) := hb1
  clear hb1
  by_cases h0 : (checkN Ps).2 = 0
  · have HCk : Hid ((checkN Ps).2 = 0) := h0
    have HP : Hid (∀ x ∈ Ps, x.name.size ≤ 31) := check_small h0
    have h64 : n ≤ 64 := by have := (check_name h0).1; have := HN.out; omega
    rw [h0]
    clear h0
    generalize (checkN Ps).1 = at1 at *
    go_wp2_with fail
    refine (new_any w1).mono ?_
    rintro e w2 ⟨rfl, hw2, hb2, hs2⟩
    have HS2 : Hid (ES w w2 w1.heap.size w1.heap.size (.slice none 0 0) []) := ⟨hw2, HB1.out.trans (hb2.mono HB1.out.size), HB1.out.size⟩
    clear hw2 hb2 hs2 HB1
    generalize w1.heap.size = r at *
    obtain ⟨w3, hcv, hx3, hb3⟩ := conv_head w2
    have HX : Hid (BytesAt w3 (some ⟨w2.heap.size, 0, none⟩) [80, 82, 76, 49]) := hx3
    have HS3 : Hid (ES w w3 r r (.slice none 0 0) []) := HS2.out.kept hb3
    clear hx3 hb3
    go_wp2_with fail
    refine (wRaw_any w3 r r _ [] [80, 82, 76, 49] _ _ _ HS3.out.wr rfl HX.out (by simp) (by simp)).mono ?_
    rintro e w4 ⟨rfl, v4, hw4, ht4⟩
    have HS4 : Hid (ES w w4 r r v4 [80, 82, 76, 49]) := HS3.out.step hw4 ht4
    clear hw4 ht4 HS3 HS2 HX hcv
    have hn64 : n < 18446744073709551616 := by omega
    go_wp2_with fail
    refine (wUint_any w4 r r n v4 [80, 82, 76, 49] HS4.out.wr hn64 (by simp)).mono ?_
    rintro e w5 ⟨rfl, v5, hw5, ht5⟩
    have HS5 : Hid (ES w w5 r r v5 (headL n ++ procsB (Ps.take 0))) := by rw [List.take_zero, procsB, List.append_nil]; exact HS4.out.step hw5 ht5
    clear hw5 ht5 HS4
    go_wp2_with fail
    go_loopw [29] (fun x wr => ∃ k : Nat, k ≤ n ∧ x = .int .i64 (k : Int) ∧ ∃ v, Hid (ES w wr r r v (headL n ++ procsB (Ps.take k)))) (fun x _ => n - (intOf x).toNat)
    case atStart => exact ⟨0, Nat.zero_le _, rfl, v5, HS5⟩
    case round =>
      clear HS5
      obtain ⟨k, hk, rfl, v6, HS⟩ := hrel
      have HLn : Hid ((headL n ++ procsB (Ps.take k)).length + 3300 ≤ 140737488355328) := by
        have h1 := uint_length 10 n
        have h2 := procsB_length (Ps.take k) (fun x hx => HP.out x (List.mem_of_mem_take hx))
        have h3 : (Ps.take k).length ≤ 64 := by rw [List.length_take]; omega
        rw [List.length_append]; unfold headL; rw [List.length_append]; show _ ≤ _; simp only [List.length_cons, List.length_nil]; omega
      by_cases hlt : k < n
      · have hlt' : k < Ps.length := by have := HN.out; omega
        obtain ⟨b, off, rfl, c0, c1, c2, c3, c4, c5⟩ := (H.out.at_.kept HS.out.bel).get k hlt'
        have HT : Hid (procsB (Ps.take (k + 1)) = procsB (Ps.take k) ++ procB (pd Ps k)) := procsB_take Ps k hlt'
        have HO0 : Hid (PrOK w (pd Ps k)) := H.out.ok _ (pd_mem hlt')
        have HSm : Hid ((pd Ps k).name.size ≤ 31) := HP.out _ (pd_mem hlt')
        generalize pd Ps k = x at *
        obtain ⟨M, HM⟩ : ∃ M, Hid (headL n ++ procsB (Ps.take k) = M) := ⟨_, rfl⟩
        rw [HM.out] at HLn HS
        obtain ⟨cap3, w3, hcv, hx3, hb3, hs3⟩ := conv_bytes (wr.alloc (.cells #[.string x.name, .int .i64 x.p.args, .int .i64 x.p.reads, .int .i64 x.p.writes, .int .i64 x.p.locals, .slice x.ao x.n x.cap] 87)) x.name
        rw [World.size_alloc] at hcv hx3 hb3 hs3
        have HA : Below wr.heap.size wr (wr.alloc (.cells #[.string x.name, .int .i64 x.p.args, .int .i64 x.p.reads, .int .i64 x.p.writes, .int .i64 x.p.locals, .slice x.ao x.n x.cap] 87)) := (Below.refl _ _).alloc (Nat.le_refl _) _
        have HR3 : Hid (RBox w3 wr.heap.size x) := (RBox.new wr x).below hb3 (by omega)
        have HS3 : Hid (ES w w3 r r v6 M) := HS.out.kept (HA.trans (hb3.mono (by omega)))
        have HX3 : Hid (BytesAt w3 (some ⟨wr.heap.size + 1, 0, none⟩) (nmB x.name)) := hx3
        have HRr : Hid (r < wr.heap.size) := HS.out.wr.lt
        have HOw : Hid (∀ j, v6.ownBlock = some j → j < wr.heap.size) := fun j hj => (HS.out.wr.2.1.2.lt j hj).2
        clear HA hx3 hb3
        go_wp2_with fail
        refine (wBytes_any w3 r r v6 M (nmB x.name) (some ⟨wr.heap.size + 1, 0, none⟩) x.name.size cap3 HS3.out.wr (nmB_length x.name).symm HX3.out (by simp) (by have := HLn.out; have := HSm.out; have := nmB_length x.name; omega) (fun a _ e => by
          cases e
          exact ⟨by have := HRr.out; simp; omega, fun e => by have := HOw.out _ e; simp at this; omega⟩)).mono ?_
        rintro e w4 ⟨rfl, v7, hw4, ht4⟩
        have HS4 : Hid (ES w w4 r r v7 (M ++ (uint 10 x.name.size ++ nmB x.name))) := HS3.out.step hw4 ht4
        have HR4 : Hid (RBox w4 wr.heap.size x) := Wrote.rbox ht4 HR3.out (by have := HRr.out; omega) (fun e => by have := HOw.out _ e; omega)
        clear hw4 ht4 HS3 HR3 HX3 hcv hs3 HOw HRr
        generalize wr.heap.size = B at *
        obtain ⟨x0, x1, x2, x3, x4, x5⟩ := HR4.out.cells
        go_wp2_with fail
        refine (put_any w4 r r v7 _ x.p x.ao x.n x.cap x.L HS4.out.wr (HO0.out.ks.kept HS4.out.bel) HO0.out.len HO0.out.kin (fun a h1 h2 => by have := HO0.out.ks.lt a h1 h2; have := HS4.out.bs; omega) (by
          have h1 := HLn.out
          have h2 := HSm.out
          have h3 := nmB_length x.name
          have h4 := uint_length 10 x.name.size
          simp only [List.length_append]; omega)).mono ?_
        rintro e w5 ⟨rfl, v8, hw5, ht5⟩
        have HS5 : Hid (∃ v, ES w w5 r r v (headL n ++ procsB (Ps.take (k + 1)))) := by
          refine ⟨v8, ?_⟩
          rw [HT.out, ← List.append_assoc, HM.out]
          have e : M ++ procB x = M ++ (uint 10 x.name.size ++ nmB x.name) ++ (writtenN x.p x.L).1 := by simp [procB]
          rw [e]
          exact HS4.out.step hw5 ht5
        clear hw5 ht5 HS4
        generalize (writtenN x.p x.L).2 = pe at *
        obtain ⟨v9, HS9⟩ := HS5.out
        have HS9' : Hid (ES w w5 r r v9 (headL n ++ procsB (Ps.take (k + 1)))) := HS9
        clear HS9 HS5
        go_wp2
        go_roundw
        case rel => exact ⟨k + 1, by omega, by go_num, v9, HS9'⟩
        case measure => simp [intOf]; omega
      · obtain rfl : k = n := by omega
        have HE : Hid (encN Ps = headL k ++ procsB (Ps.take k)) := by rw [HN.out, List.take_length]; rfl
        have HLe : Hid ((encN Ps).length ≤ 140737488355328) := by have := HLn.out; rw [HE.out]; show _ ≤ _; omega
        rw [← HE.out] at HS
        go_wp2_with fail
        refine (wOut_any wr r r v6 (encN Ps) HS.out.wr HLe.out).mono ?_
        rintro e w8 ⟨rfl, hr8, hb8, _⟩
        have HR8 : Hid (RowAt w8 wr.heap.size (encN Ps)) := hr8
        have HB8 : Hid (Below w.heap.size w w8) := HS.out.bel.trans (hb8.mono HS.out.bel.size)
        have HG : Hid (w.heap.size ≤ wr.heap.size) := HS.out.bel.size
        clear hr8 hb8
        go_wp2
        go_ret2
        exact ⟨.inr ⟨HCk.out, wr.heap.size, rfl, HR8.out, HG.out⟩, HB8.out⟩
  · have h0' : ((checkN Ps).2 != 0) = true := by simpa using h0
    have HV : Hid ((checkN Ps).2 ≠ 0) := h0
    generalize hc2 : (checkN Ps).2 = c2 at *
    generalize (checkN Ps).1 = at1 at *
    clear h0
    go_wp2
    go_ret2
    exact ⟨.inl ⟨by rw [hc2]; exact HV.out, by rw [hc2]; rfl⟩, HB1.out⟩
end Go.Proofs.YtkmafpfldnapjaaGreatDoor
/-
  append OF A TEXT TO BYTES OF THE CALL'S OWN.
-/
namespace Go.Proofs.YtkmafpfldnapjaaGreatDoor
open Go.RowKit

theorem strCells_nm (s : ByteArray) : Lib.strCells s = (nmB s).map b8 := by
  simp [Lib.strCells, nmB, b8, List.map_map]
theorem run_append_str {w : World} (ty : TypeId) (base : Nat) (v : Value) (L : List Nat) (hown : OwnB w base v L) (s : ByteArray) (hlen : L.length + s.size ≤ 140737488355328) (hbase : base ≤ w.heap.size) :
    ∃ v' w', (Builtin.append_ #[46, 9] ty #[v, .string s]).run Tryz.prog w = .ok v' w' ∧ OwnB w' base v' (L ++ nmB s) ∧ w.grownBy w' v.ownBlock := by
  obtain ⟨i0, hi, hz0, hz1, hz2⟩ := info_parts info8
  obtain ⟨v', w', hr, h2, h3, _⟩ := Lib.run_append_own_string (P := Tryz.prog) w base 46 9 ty 5 i0 Tryz.underlying46 Tryz.underlying9 hi hz0 hz1 hz2 v L.length (L.map b8) hown.2 s (by unfold maxLen; omega) hlen hbase
  refine ⟨v', w', hr, ⟨fun z hz => ?_, ?_⟩, h3⟩
  · rcases List.mem_append.1 hz with h1 | h1
    · exact hown.1 z h1
    · exact nmB_lt s z h1
  · rw [List.length_append, nmB_length, List.map_append, ← strCells_nm]; exact h2
theorem wpList_append_str {w : World} {ops : Array Oper} {rest : List Oper} {o : Oper} {a : Act} {Q : Exit → Act → World → Prop} (hgd : o.guard = none) (sl x : Operand)
    (ho : o.op = .call { callee := .builtin .append, args := #[sl, x], argTypes := #[46, 9] }) (base : Nat) (v : Value) (L : List Nat) (hs : a.eval sl = v) (hown : OwnB w base v L) (s : ByteArray) (hx : a.eval x = .string s)
    (hlen : L.length + s.size ≤ 140737488355328) (hbase : base ≤ w.heap.size)
    (h : ∀ v' w', OwnB w' base v' (L ++ nmB s) → w.grownBy w' v.ownBlock → wpList Tryz.prog ops Q rest (a.put o.dst v') w') : wpList Tryz.prog ops Q (o :: rest) a w := by
  obtain ⟨v', w', hr, h2, h3⟩ := run_append_str o.type base v L hown s hlen hbase
  refine wpList_plain hgd fun K hK' => ?_
  unfold Oper.wp
  simp [execOp, ho, resolve, invoke, builtin, hs, hx, hr, Result.andThen]
  exact hK' _ _ (h v' w' h2 h3)
end Go.Proofs.YtkmafpfldnapjaaGreatDoor
/-
  THE WALKS OF preluderef01.Uint, Fold, Int.
-/
namespace Go.Proofs.YtkmafpfldnapjaaGreatDoor
open Go.RowKit

/-- append at a slice of bytes of the call's own, as one equation -/
theorem run_append_bytes {w : World} (ty : TypeId) (base : Nat) (v : Value) (L : List Nat) (hown : OwnB w base v L)
    (ao : Option Addr) (m c : Nat) (zs : List Nat) (hm : m = zs.length) (hsrc : BytesAt w ao zs) (hnil : ao = none → c = 0) (hlen : L.length + zs.length ≤ 140737488355328) (hbase : base ≤ w.heap.size) :
    ∃ v' w', (Builtin.append_ #[46, 46] ty #[v, .slice ao m c]).run Tryz.prog w = .ok v' w' ∧ OwnB w' base v' (L ++ zs) ∧ w.grownBy w' v.ownBlock ∧ (v'.ownBlock = v.ownBlock ∨ v'.ownBlock = some w.heap.size) := by
  obtain ⟨i0, hi, hz0, hz1, hz2⟩ := info_parts info8
  subst hm
  have hzz : ∀ z ∈ L ++ zs, z < 256 := by
    intro z hz
    rcases List.mem_append.1 hz with h1 | h1
    · exact hown.1 z h1
    · exact hsrc.1 z h1
  cases ao with
  | none =>
    have h0 : zs = [] := by
      obtain ⟨_, h1 | ⟨b, off, h1, _⟩⟩ := hsrc
      · exact h1
      · cases h1
    subst h0
    obtain rfl := hnil rfl
    exact ⟨v, w, run_append_owned_none (P := Tryz.prog) (w := w) base 46 ty 5 i0 1 Tryz.underlying46 hi v L.length (L.map b8) hown.2, by simpa using hown, World.grownBy.refl _ _, .inl rfl⟩
  | some ad =>
    obtain ⟨v', w', hr, h2, h3, _, h5⟩ := run_append_own_at (P := Tryz.prog) w base 46 ty 5 i0 (.int .u8 0) 1 1 Tryz.underlying46 hi hz0 hz1 hz2 rfl (by decide) v L.length (L.map b8) hown.2 ad zs.length c (zs.map b8) (by simp)
      (by
        intro j u hu
        by_cases h0 : zs = []
        · subst h0; simp at hu
        · obtain ⟨ad', e, hc⟩ := bytes_src hsrc h0
          cases e
          exact hc j u hu) (oneCells zs) (by unfold maxLen; omega) (by omega) hbase
    exact ⟨v', w', hr, ⟨hzz, by rw [List.length_append, List.map_append]; exact h2⟩, h3, h5⟩
/-- at a step of a region that draws -/
theorem step_append_bytes {w : World} {ops : Array Oper} {o : Oper} {a : Act} {K : Act → World → Prop} {Q : Exit → Act → World → Prop} {E : Prop} (hgd : o.guard = none) (s x : Operand)
    (ho : o.op = .call { callee := .builtin .append, args := #[s, x], argTypes := #[46, 46] }) (base : Nat) (v : Value) (L : List Nat) (hs : a.eval s = v) (hown : OwnB w base v L)
    (ao : Option Addr) (m c : Nat) (zs : List Nat) (hx : a.eval x = .slice ao m c) (hm : m = zs.length) (hsrc : BytesAt w ao zs) (hnil : ao = none → c = 0) (hlen : L.length + zs.length ≤ 140737488355328) (hbase : base ≤ w.heap.size)
    (h : ∀ v' w', OwnB w' base v' (L ++ zs) → w.grownBy w' v.ownBlock → (v'.ownBlock = v.ownBlock ∨ v'.ownBlock = some w.heap.size) → K (a.put o.dst v') w') :
    if Region.wanted o (yielded ops a.tmps) = true then Oper.wp Tryz.prog o a w K Q else E := by
  have hw : Region.wanted o (yielded ops a.tmps) = true := by simp [Region.wanted, hgd]
  rw [if_pos hw]
  obtain ⟨v', w', hr, h2, h3, h4⟩ := run_append_bytes o.type base v L hown ao m c zs hm hsrc hnil hlen hbase
  unfold Oper.wp execOp
  simp only [ho, resolve, invoke, builtin, Sem.run_bind, Sem.run_pure, Result.andThen_ok, List.map_toArray, List.map_cons, List.map_nil, hs, hx, hr]
  exact h v' w' h2 h3 h4

theorem below_grown {w w1 : World} {row : Option Nat} {B : Nat} (h : w.grownBy w1 row) (hr : ∀ k, row = some k → B ≤ k) (hB : B ≤ w.heap.size) : Below B w w1 :=
  ⟨h.os, h.tape, h.output, h.size, fun k hk => h.block k (by omega) (fun e => by have := hr k e.symm; omega)⟩



end Go.Proofs.YtkmafpfldnapjaaGreatDoor
/-
  THE WALK OF landings.
-/
namespace Go.Proofs.YtkmafpfldnapjaaGreatDoor
open Go.RowKit Go.Sort Go.Shelf

def cellsB (L : List Bool) : Array Value := (L.map Value.bool).toArray
theorem infoBl : (Tryz.prog.info? 4).map (fun i => (i.zero, i.size, i.bytes)) = some (some (.bool false), 1, 1) := by kernel_rfl
theorem made_cellsB (n : Nat) : madeCells #[.bool false] n = cellsB (List.replicate n false) := by
  apply Array.ext'
  rw [toList_madeCells_one]
  simp [cellsB]
theorem make_bools (c : Nat) (C : Int) (hC : C = c) (hc : c ≤ 1000000) (u : World) : (Instr.makeSlice 135 (.int .i64 C) (.int .i64 C)).run Tryz.prog u =
    .ok (.slice (some ⟨u.heap.size, 0, none⟩) c c) (u.alloc (.cells (cellsB (List.replicate c false)) 4)) := by
  obtain ⟨i0, hi, hz0, hz1, hz2⟩ := info_parts infoBl
  subst hC
  have h := run_make (P := Tryz.prog) u 135 4 i0 (.bool false) Tryz.underlying135 hi hz0 .i64 .i64 (c : Int) (c : Int) (by omega) (Int.le_refl _) (by rw [hz2]; omega) (by omega)
  rw [← made_cellsB]
  simpa [hz1, Value.cells] using h
/-- BLOCK g IS A ROW OF BOOLS -/
def RowBl (w : World) (g : Nat) (L : List Bool) : Prop := w.heap[g]? = some (.cells (cellsB L) 4 (0, 0))
theorem RowBl.lt {w : World} {g : Nat} {L : List Bool} (h : RowBl w g L) : g < w.heap.size := (Array.getElem?_eq_some_iff.1 h).1
theorem RowBl.cell {w : World} {g : Nat} {L : List Bool} (h : RowBl w g L) {j : Nat} {x : Bool} (hx : L[j]? = some x) : w.cell? ⟨g, j, none⟩ = some (.bool x) := by
  simp [World.cell?, show w.heap[g]? = _ from h, cellsB, hx]
theorem RowBl.frozen {w : World} {g : Nat} {L : List Bool} (h : RowBl w g L) (j : Nat) : w.frozen? ⟨g, j, none⟩ = false := frozen_of_row w g j _ _ h
theorem RowBl.kept {w w1 : World} {g : Nat} {L : List Bool} (h : RowBl w g L) (hb : Below w.heap.size w w1) : RowBl w1 g L := (hb.block g h.lt).trans h
theorem RowBl.set {w : World} {g : Nat} {L : List Bool} (h : RowBl w g L) (i : Nat) (z : Bool) : RowBl (w.setCell ⟨g, i, none⟩ (.bool z)) g (L.set i z) := by
  have := heap_setCell_same w g i _ _ (.bool z) h
  unfold RowBl
  rw [this]
  simp [cellsB, List.map_set]
/-- does one of these go to the place? -/
def lndB (L : List K) (a : Nat) : Bool := L.any fun k => jumpB k.1 && decide (k.2 = (a : Int))
def lndL (L : List K) (n : Nat) : List Bool := (List.range (n + 1)).map (lndB L)
theorem lndL_nil (n : Nat) : lndL [] n = List.replicate (n + 1) false := by
  apply List.ext_getElem?
  intro i
  by_cases hi : i < n + 1
  · simp [lndL, lndB, hi]
  · simp [lndL, hi]
theorem lndL_get {L : List K} {n a : Nat} (h : a ≤ n) : (lndL L n)[a]? = some (lndB L a) := by simp [lndL, show a < n + 1 by omega]
theorem lndL_no {L : List K} {n : Nat} {k : K} (h : jumpB k.1 = false) : lndL (L ++ [k]) n = lndL L n := by
  unfold lndL
  refine List.map_congr_left fun a _ => ?_
  simp [lndB, h]
theorem lndL_yes {L : List K} {n a : Nat} {k : K} (h : jumpB k.1 = true) (ha : k.2 = (a : Int)) : lndL (L ++ [k]) n = (lndL L n).set a true := by
  apply List.ext_getElem?
  intro j
  rw [List.getElem?_set]
  by_cases hj : j < n + 1
  · by_cases e : a = j
    · subst e; simp [lndL, lndB, hj, h, ha]
    · have e' : ¬ (k.2 = (j : Int)) := by rw [ha]; omega
      simp [lndL, lndB, hj, h, e', e]
  · by_cases e : a = j
    · subst e; simp [lndL, hj]
    · simp [lndL, hj, e]

set_option maxRecDepth 100000 in
set_option maxHeartbeats 2000000 in
theorem landings_any (w : World) (ao : Option Addr) (n cap : Nat) (L : List K) (h : KeysAt w ao L) (hn : n = L.length) (hm : n ≤ 256) (hj : ∀ k ∈ L, jumpB k.1 = true → 0 ≤ k.2 ∧ k.2 ≤ (n : Int)) :
    Calls Tryz.prog 62 #[.slice ao n cap] w fun e w' => ∃ g, e = .returned (.slice (some ⟨g, 0, none⟩) (n + 1) (n + 1)) ∧ RowBl w' g (lndL L n) ∧ Below w.heap.size w w' ∧ w.heap.size ≤ g := by
  have H : Hid (KeysAt w ao L) := h
  have HN : Hid (n = L.length) := hn
  have HJ : Hid (∀ k ∈ L, jumpB k.1 = true → 0 ≤ k.2 ∧ k.2 ≤ (n : Int)) := hj
  clear h hn hj
  have hmk := make_bools (n + 1) ((n : Int) + 1) (by omega) (by omega)
  have HR0 : Hid (RowBl (w.alloc (.cells (cellsB (List.replicate (n + 1) false)) 4)) w.heap.size (lndL (L.take 0) n)) := by
    rw [List.take_zero, lndL_nil]; exact heap_alloc_new _ _ rfl
  have HB0 : Hid (Below w.heap.size w (w.alloc (.cells (cellsB (List.replicate (n + 1) false)) 4))) := (Below.refl _ _).alloc (Nat.le_refl _) _
  go_enter Tryz.func62, Tryz.ntmps62
  go_wp2_with fail
  generalize w.alloc (.cells (cellsB (List.replicate (n + 1) false)) 4) = w1 at *
  clear hmk
  go_loopw [12] (fun x wr => ∃ k : Nat, k ≤ n ∧ x = .int .i64 (k : Int) ∧ Hid (RowBl wr w.heap.size (lndL (L.take k) n)) ∧ Hid (Below w.heap.size w wr)) (fun x _ => n - (intOf x).toNat)
  case atStart => exact ⟨0, Nat.zero_le _, rfl, HR0, HB0⟩
  case round =>
    clear HR0 HB0
    obtain ⟨k, hk, rfl, HR, HB⟩ := hrel
    by_cases hlt : k < n
    · have hlt' : k < L.length := by have := HN.out; omega
      obtain ⟨b, off, rfl, c1, c2⟩ := (H.out.kept HB.out).get k hlt'
      have HT : Hid (L.take (k + 1) = L.take k ++ [cd L k]) := take_kd L k hlt'
      have HJk : Hid (jumpB (cd L k).1 = true → 0 ≤ (cd L k).2 ∧ (cd L k).2 ≤ (n : Int)) := HJ.out _ (kd_mem hlt')
      generalize cd L k = kk at *
      obtain ⟨op, A⟩ := kk
      simp only at c1 c2
      have HBl : Hid (Below wr.heap.size wr (wr.alloc (.cells #[.int .i64 op, .int .i64 A] 91))) := (Below.refl _ _).alloc (Nat.le_refl _) _
      have HR1 : Hid (RowBl (wr.alloc (.cells #[.int .i64 op, .int .i64 A] 91)) w.heap.size (lndL (L.take k) n)) := HR.out.kept HBl.out
      have HB1 : Hid (Below w.heap.size w (wr.alloc (.cells #[.int .i64 op, .int .i64 A] 91))) := HB.out.trans (HBl.out.mono HB.out.size)
      have x0 := (Box.new (w := wr) (b := wr.heap.size) (x := op) (y := A) rfl).1
      have x1 := (Box.new (w := wr) (b := wr.heap.size) (x := op) (y := A) rfl).2
      go_wp2_with fail
      generalize wr.alloc (.cells #[.int .i64 op, .int .i64 A] 91) = w2 at *
      refine (isJump_any w2 op).mono ?_
      rintro e w3 ⟨rfl, rfl⟩
      cases hjm : jumpB op with
      | true =>
        obtain ⟨h1, h2⟩ := HJk.out hjm
        obtain ⟨a, rfl⟩ := Int.eq_ofNat_of_zero_le h1
        have han : a ≤ n := by omega
        have f0 := HR1.out.frozen a
        have d0 := HR1.out.cell (lndL_get (L := L.take k) han)
        have HR2 : Hid (RowBl (w3.setCell ⟨w.heap.size, a, none⟩ (.bool true)) w.heap.size (lndL (L.take (k + 1)) n)) := by
          rw [HT.out, lndL_yes (k := (op, (a : Int))) hjm rfl]; exact HR1.out.set a true
        have HB2 : Hid (Below w.heap.size w (w3.setCell ⟨w.heap.size, a, none⟩ (.bool true))) := by
          have hg := grown_setCell w3 ⟨w.heap.size, a, none⟩ (.bool true)
          exact HB1.out.trans (below_grown hg (fun q hq => by cases hq; exact Nat.le_refl _) HB1.out.size)
        clear h1 h2 HR HB HR1 HB1 HJk
        go_wp2
        go_roundw
        case rel => exact ⟨k + 1, by omega, by go_num, HR2, HB2⟩
        case measure => simp [intOf]; omega
      | false =>
        have HR2 : Hid (RowBl w3 w.heap.size (lndL (L.take (k + 1)) n)) := by rw [HT.out, lndL_no (k := (op, A)) hjm]; exact HR1.out
        clear HR HB HR1 HJk
        go_wp2
        go_roundw
        case rel => exact ⟨k + 1, by omega, by go_num, HR2, HB1⟩
        case measure => simp [intOf]; omega
    · obtain rfl : k = n := by omega
      have HR2 : Hid (RowBl wr w.heap.size (lndL L k)) := by have := HR.out; rw [HN.out, List.take_length, ← HN.out] at this; exact this
      clear HR
      go_wp2
      go_ret
      exact ⟨w.heap.size, rfl, HR2.out, HB.out, Nat.le_refl _⟩
end Go.Proofs.YtkmafpfldnapjaaGreatDoor
