import Derived.Test.YtiiplikmoodfnaaGreatDoorKARasm
import Derived.Test.YtiiplikmoodfnaaGreatDoorKALSame
import Derived.Test.YtiiplikmoodfnaaGreatDoorKARapart
import Derived.Test.YtiiplikmoodfnaaGreatDoorKARd
import Derived.Test.YtiiplikmoodfnaaGreatDoorKBytes
import Derived.Test.YtiiplikmoodfnaaGreatDoorKLProc
import Derived.Test.YtiiplikmoodfnaaGreatDoorCrc
import Derived.Deep.QuietTactic
import Derived.Test.YtiiplikmoodfnaaGreatDoorKAMath
import Derived.Test.YtiiplikmoodfnaaGreatDoorKLSearch
import Derived.Laws.IdiomStrings
import Derived.Lib.SlBytesConst
import Derived.Lib.AppendStr
/-
  AsmAssembles: WHAT THE TWO LEAVE.
-/
namespace Go.Proofs.YtiiplikmoodfnaaGreatDoor
open Go.RowKit Go.Sort

/-- a text is refused: line, column, number -/
def ErrL (l : List UInt8) (x y z : Int) : Prop :=
  (65536 < l.length ∧ x = 0 ∧ y = 0 ∧ z = 44) ∨ (l.length ≤ 65536 ∧
    ((∃ E, linesA (splitN l) (splitN l).length = .error E ∧ x = (E.1 : Int) ∧ y = (E.2.1 : Int) ∧ z = E.2.2) ∨
     (∃ a, linesA (splitN l) (splitN l).length = .ok a ∧
       ((a.opn = true ∧ x = (a.begun.1 : Int) ∧ y = (a.begun.2 : Int) ∧ z = 45) ∨
        (a.opn = false ∧ ∃ Qs : List Pr, a.lib = Qs.map ppOf ∧ (checkN Qs).2 ≠ 0 ∧ x = ((a.names.getD (checkN Qs).1 (0, 0)).1 : Int) ∧ y = ((a.names.getD (checkN Qs).1 (0, 0)).2 : Int) ∧ z = (checkN Qs).2)))))
/-- a text is taken -/
def OkL (l : List UInt8) (a : As) : Prop := l.length ≤ 65536 ∧ linesA (splitN l) (splitN l).length = .ok a ∧ a.opn = false ∧ ∃ Qs : List Pr, a.lib = Qs.map ppOf ∧ (checkN Qs).2 = 0
theorem chk_pp {Ps Qs : List Pr} (h : Ps.map ppOf = Qs.map ppOf) : checkN Ps = checkN Qs := check_corA (corA_of h)
theorem ErrL.one {l : List UInt8} {x y z x' y' z' : Int} (h : ErrL l x y z) (h' : ErrL l x' y' z') : x = x' ∧ y = y' ∧ z = z' := by
  rcases h with ⟨h1, rfl, rfl, rfl⟩ | ⟨h1, h2⟩
  · rcases h' with ⟨_, rfl, rfl, rfl⟩ | ⟨k1, _⟩
    · exact ⟨rfl, rfl, rfl⟩
    · omega
  · rcases h' with ⟨k1, _⟩ | ⟨k1, k2⟩
    · omega
    · rcases h2 with ⟨E, e1, rfl, rfl, rfl⟩ | ⟨a, e1, e2⟩
      · rcases k2 with ⟨E', d1, rfl, rfl, rfl⟩ | ⟨a', d1, _⟩
        · rw [e1] at d1
          cases d1
          exact ⟨rfl, rfl, rfl⟩
        · rw [e1] at d1; cases d1
      · rcases k2 with ⟨E', d1, _⟩ | ⟨a', d1, d2⟩
        · rw [e1] at d1; cases d1
        · rw [e1] at d1
          cases d1
          rcases e2 with ⟨o1, rfl, rfl, rfl⟩ | ⟨o1, Qs, q1, q2, rfl, rfl, rfl⟩
          · rcases d2 with ⟨_, rfl, rfl, rfl⟩ | ⟨o2, _⟩
            · exact ⟨rfl, rfl, rfl⟩
            · rw [o1] at o2; cases o2
          · rcases d2 with ⟨o2, _⟩ | ⟨_, Qs', r1, r2, rfl, rfl, rfl⟩
            · rw [o1] at o2; cases o2
            · rw [chk_pp (q1.symm.trans r1)]
              exact ⟨rfl, rfl, rfl⟩
theorem ErrL.no {l : List UInt8} {x y z : Int} {a : As} (h : ErrL l x y z) (h' : OkL l a) : False := by
  obtain ⟨k1, k2, k3, Qs, k4, k5⟩ := h'
  rcases h with ⟨h1, _⟩ | ⟨_, ⟨E, e1, _⟩ | ⟨a', e1, e2⟩⟩
  · omega
  · rw [e1] at k2; cases k2
  · rw [e1] at k2
    cases k2
    rcases e2 with ⟨o1, _⟩ | ⟨_, Qs', q1, q2, _⟩
    · rw [k3] at o1; cases o1
    · rw [chk_pp (q1.symm.trans k4)] at q2
      exact q2 k5
theorem OkL.one {l : List UInt8} {a a' : As} (h : OkL l a) (h' : OkL l a') : a = a' := by
  have e := h.2.1.symm.trans h'.2.1
  simpa using e
theorem linesR_sz {ls : List (List Wd)} (hw : ∀ ws ∈ ls, ∀ y ∈ ws, y.1.length ≤ 65536) : ∀ (k : Nat) {a : As}, k ≤ 65537 → linesA ls k = .ok a → AsSz a k
  | 0, a, _, h => by cases h; exact start_sz
  | k + 1, a, hk, h => by
    rw [linesA] at h
    cases h1 : linesA ls k with
    | error e => rw [h1] at h; cases h
    | ok a1 =>
      rw [h1] at h
      refine line_sz (linesR_sz hw k (by omega) h1) hk (by omega) (fun y hy => ?_) h
      rw [List.getD_eq_getElem?_getD] at hy
      cases hq : ls[k]? with
      | none => rw [hq] at hy; simp at hy
      | some ws => rw [hq] at hy; exact hw ws (List.mem_of_getElem? hq) y hy
theorem OkL.sz {l : List UInt8} {a : As} (h : OkL l a) : AsSz a (splitN l).length := linesR_sz (fun ws hw => (split_small l h.1 ws hw).2) _ (by have := split_few l; have := h.1; omega) h.2.1
/-- an error whose fault is told, from this world on -/
def FltR (W : World) (v : Value) (x y z : Int) : Prop := ∀ W', Go.RowKit.Below W.heap.size W W' → Calls Tryz.prog 6 #[v] W' fun e w' => e = .returned (ftv x y z) ∧ Go.RowKit.Below W'.heap.size W' w'
/-- what the code leaves -/
def CodP (w : World) (l : List UInt8) (e : Ending) (w' : World) : Prop := Go.RowKit.Below w.heap.size w w' ∧
  ((∃ v x y z, e = .returned (.tuple #[.slice none 0 0, v]) ∧ ErrL l x y z ∧ FltR w' v x y z ∧ ∃ t p, v = .iface t p) ∨
   (∃ a M B line Ps vl vn vm vj, e = .returned (.tuple #[vl, .nilIface]) ∧ OkL l a ∧ ASt w' M B line a Ps vl vn vm vj ∧ w.heap.size ≤ B))
theorem flt_at {W : World} {v : Value} {line col : Nat} {n : Int} (h : ErrAt W v line col n) (he : ErrVar W) (hB : 8 ≤ W.heap.size) : FltR W v (line : Int) (col : Int) n := fun W' hb => fault_any W' v line col n (h.kept hb) (he.bel hb hB) (Nat.le_trans hB hb.size)
theorem cod_any (w : World) (l : List UInt8) (hv : NumVars w) (hn : NmAt w) (hkw : KwAt w) (he : ErrVar w) (hB : 8 ≤ w.heap.size) : Calls Tryz.prog 5 #[.string (S l)] w fun e w' => CodP w l e w' := by
  by_cases hl : l.length ≤ 65536
  · refine (assemble_any w l hl hv hn hkw he hB).mono ?_
    rintro e w' (⟨v, E, rfl, h1, h2, hb⟩ | ⟨M, B, line, a, Ps, vl, vn, vm, vj, W3, h1, h2, h3, hb, h5⟩)
    · refine ⟨hb, .inl ⟨v, _, _, _, rfl, .inr ⟨hl, .inl ⟨E, h1, rfl, rfl, rfl⟩⟩, flt_at h2 (he.bel hb hB) (Nat.le_trans hB hb.size), ?_⟩⟩
      obtain ⟨b, rfl, _⟩ := h2
      exact ⟨_, _, rfl⟩
    · refine ⟨hb, ?_⟩
      have heq : a.lib = Ps.map ppOf := h2.eq
      rcases h5 with ⟨v, rfl, k1, k2, _⟩ | ⟨v, rfl, k1, k2, k3, _⟩ | ⟨rfl, k1, k2, k3⟩
      · refine .inl ⟨v, _, _, _, rfl, .inr ⟨hl, .inr ⟨a, h1, .inl ⟨k1, rfl, rfl, rfl⟩⟩⟩, flt_at k2 (he.bel hb hB) (Nat.le_trans hB hb.size), ?_⟩
        obtain ⟨b, rfl, _⟩ := k2
        exact ⟨_, _, rfl⟩
      · refine .inl ⟨v, _, _, _, rfl, .inr ⟨hl, .inr ⟨a, h1, .inr ⟨k1, Ps, heq, k2, rfl, rfl, rfl⟩⟩⟩, flt_at k3 (he.bel hb hB) (Nat.le_trans hB hb.size), ?_⟩
        obtain ⟨b, rfl, _⟩ := k3
        exact ⟨_, _, rfl⟩
      · exact .inr ⟨a, M, B, line, Ps, vl, vn, vm, vj, rfl, ⟨hl, h1, k1, Ps, heq, k2⟩, h2.below k3, Nat.le_of_eq h3⟩
  · have hs : 65536 < (S l).size := by rw [S_size]; omega
    refine (asmLong_any w (S l) hs).mono ?_
    rintro e w' ⟨rfl, rfl⟩
    exact ⟨Below.refl _ _, .inl ⟨_, 0, 0, 44, rfl, .inl ⟨by omega, rfl, rfl, rfl⟩, fun W' hb => faultLong_any W' (he.bel hb hB) (Nat.le_trans hB hb.size), _, _, rfl⟩⟩
/-- what the document leaves -/
def DocP (w : World) (l : List UInt8) (e : Ending) (w' : World) : Prop := Go.RowKit.Below w.heap.size w w' ∧
  ((∃ x y z, e = .returned (.tuple #[.slice none 0 0, ftv x y z]) ∧ ErrL l x y z) ∨
   (∃ a go cap Qs, e = .returned (.tuple #[.slice go (List.length Qs) cap, ftv 0 0 0]) ∧ OkL l a ∧ LibAt w' go Qs ∧ a.lib = Qs.map ppOf ∧ Qs.length ≤ 65537))
set_option maxRecDepth 100000 in
set_option maxHeartbeats 1000000 in
theorem refLong_any (w : World) (s : ByteArray) (h : 65536 < s.size) : Calls Tryz.prog 4 #[.string s] w fun e w' => e = .returned (.tuple #[.slice none 0 0, ftv 0 0 44]) ∧ Go.RowKit.Below w.heap.size w w' := by
  obtain ⟨w1, hw1⟩ : ∃ w1, w1 = w.alloc (.cells #[.int .i64 0, .int .i64 0, .int .i64 0] 24) := ⟨_, rfl⟩
  obtain ⟨f, hf⟩ : ∃ f, f = w.heap.size := ⟨_, rfl⟩
  have hb1 : Go.RowKit.Below w.heap.size w w1 := by rw [hw1]; exact bel_al _ _
  have hF : FB w1 f (.int .i64 0) (.int .i64 0) (.int .i64 0) := by rw [hw1, hf]; exact heap_alloc_new _ _ rfl
  obtain ⟨⟨g0, g1, g2⟩, ⟨c0, c1, c2⟩, hst⟩ := ft_facts hF
  have hld := load_fault (hst (.int .i64 0) (.int .i64 0) (.int .i64 44))
  have HX : Hid (Go.RowKit.Below w.heap.size w (((w1.setCell ⟨f, 0, none⟩ (.int .i64 0)).setCell ⟨f, 1, none⟩ (.int .i64 0)).setCell ⟨f, 2, none⟩ (.int .i64 44))) := hb1.trans (ft_below (Nat.le_of_eq hf.symm) _ _ _)
  have h' : (65536 : Int) < (s.size : Int) := by omega
  clear hF hb1 hst h
  go_enter Tryz.func4, Tryz.ntmps4
  go_upto_region 1 with fail
  rw [← hw1, ← hf]
  clear hw1 hf
  go_wp2_with fail
  refine bodyPost_ret (v := .tuple #[.slice none 0 0, ftv 0 0 44]) ?_ rfl ?_
  · simp [results, Tryz.results4, asAddr, hld]
  · exact ⟨rfl, HX.out⟩
theorem doc_any (w : World) (l : List UInt8) : Calls Tryz.prog 4 #[.string (S l)] w fun e w' => DocP w l e w' := by
  by_cases hl : l.length ≤ 65536
  · refine (refAssemble_any w l hl).mono ?_
    rintro e w' (⟨E, rfl, h1, hb⟩ | ⟨a, h1, hb, h2⟩)
    · rw [← lines_cut] at h1
      exact ⟨hb, .inl ⟨_, _, _, rfl, .inr ⟨hl, .inl ⟨E, h1, rfl, rfl, rfl⟩⟩⟩⟩
    · rw [← lines_cut] at h1
      refine ⟨hb, ?_⟩
      rcases h2 with ⟨rfl, k1⟩ | ⟨Qs, rfl, k1, k2, k3⟩ | ⟨M, B, Qs, nl, Lo, r, rfl, k1, k2, k3, _⟩
      · exact .inl ⟨_, _, _, rfl, .inr ⟨hl, .inr ⟨a, h1, .inl ⟨k1, rfl, rfl, rfl⟩⟩⟩⟩
      · exact .inl ⟨_, _, _, rfl, .inr ⟨hl, .inr ⟨a, h1, .inr ⟨k1, Qs, k2, k3, rfl, rfl, rfl⟩⟩⟩⟩
      · have heq : a.lib = Qs.map ppOf := by rw [k3.eq, k1]; simp
        have hok : OkL l a := ⟨hl, h1, k1, Qs, heq, k2⟩
        obtain ⟨go, cap, hlv, _⟩ := own_slice k3.lib
        have hq : Qs.length ≤ 65537 := by
          have h9 := hok.sz.lib
          have h8 := hok.sz.top
          rw [heq, List.length_map] at h9
          omega
        exact .inr ⟨a, go, cap, Qs, by rw [hlv], hok, k3.libAt hok.sz hlv, heq, hq⟩
  · have hs : 65536 < (S l).size := by rw [S_size]; omega
    refine (refLong_any w (S l) hs).mono ?_
    rintro e w' ⟨rfl, hb⟩
    exact ⟨hb, .inl ⟨0, 0, 44, rfl, .inl ⟨by omega, rfl, rfl, rfl⟩⟩⟩
end Go.Proofs.YtiiplikmoodfnaaGreatDoor
/-
  THE EXAMPLE: reckoned.
-/
namespace Go.Proofs.YtiiplikmoodfnaaGreatDoor
open Go.RowKit Go.Sort

/-- the example's text -/
def exL : List UInt8 := [112, 114, 111, 99, 32, 109, 111, 118, 101, 32, 97, 114, 103, 115, 32, 49, 32, 114, 101, 97, 100, 115, 32, 50, 32, 119, 114, 105, 116, 101, 115, 32, 50, 32, 108, 111, 99, 97, 108, 115, 32, 48, 10, 32, 32, 103, 101, 116, 32, 48, 10, 32, 32, 97, 114, 103, 32, 48, 10, 32, 32, 108, 116, 10, 32, 32, 122, 101, 114, 111, 32, 76, 54, 10, 32, 32, 112, 117, 115, 104, 32, 49, 10, 32, 32, 97, 98, 111, 114, 116, 10, 76, 54, 58, 10, 32, 32, 103, 101, 116, 32, 48, 10, 32, 32, 97, 114, 103, 32, 48, 10, 32, 32, 115, 117, 98, 10, 32, 32, 112, 117, 116, 32, 48, 10, 32, 32, 103, 101, 116, 32, 49, 10, 32, 32, 97, 114, 103, 32, 48, 10, 32, 32, 97, 100, 100, 10, 32, 32, 112, 117, 116, 32, 49, 10, 101, 110, 100, 10, 112, 114, 111, 99, 32, 112, 117, 116, 32, 97, 114, 103, 115, 32, 49, 32, 114, 101, 97, 100, 115, 32, 48, 32, 119, 114, 105, 116, 101, 115, 32, 49, 32, 108, 111, 99, 97, 108, 115, 32, 48, 10, 32, 32, 97, 114, 103, 32, 48, 10, 32, 32, 112, 117, 116, 32, 48, 10, 101, 110, 100, 10]
def exC1 : List K := [(7, 0), (6, 0), (24, 0), (31, 6), (1, 1), (36, 0), (7, 0), (6, 0), (11, 0), (32, 0), (7, 1), (6, 0), (10, 0), (32, 1)]
def exC2 : List K := [(6, 0), (32, 0)]
/-- what is read of it -/
def exA : As := ⟨[⟨[109, 111, 118, 101], ⟨1, 2, 2, 0⟩, exC1⟩, ⟨[112, 117, 116], ⟨1, 0, 1, 0⟩, exC2⟩], [(1, 6), (18, 6)], false, (18, 1), [], []⟩
theorem ex_size : exL.length = 221 := by kernel_rfl
theorem ex_len : exL.length ≤ 65536 := by rw [ex_size]; omega
theorem ex_split : (splitN exL).length = 22 := by kernel_rfl
theorem ex_lines : linesA (splitN exL) (splitN exL).length = .ok exA := by rw [ex_split]; kernel_rfl
theorem name_of {x : ByteArray} {l : List UInt8} (h : x.data.toList = l) : x = S l := by
  obtain ⟨a⟩ := x
  subst h
  simp [S]
def exPs (a1 a2 : Option Addr) (n1 c1 n2 c2 : Nat) : List Pr := [⟨S [109, 111, 118, 101], ⟨1, 2, 2, 0⟩, a1, n1, c1, exC1⟩, ⟨S [112, 117, 116], ⟨1, 0, 1, 0⟩, a2, n2, c2, exC2⟩]
theorem ex_ps {Ps : List Pr} (h : exA.lib = Ps.map ppOf) : ∃ a1 a2 n1 c1 n2 c2, Ps = exPs a1 a2 n1 c1 n2 c2 := by
  match Ps, h with
  | [⟨m1, p1, a1, n1, c1, L1⟩, ⟨m2, p2, a2, n2, c2, L2⟩], h =>
    simp only [exA, ppOf, List.map_cons, List.map_nil, List.cons.injEq, PP.mk.injEq, and_true] at h
    obtain ⟨⟨e1, rfl, rfl⟩, e2, rfl, rfl⟩ := h
    rw [name_of e1.symm, name_of e2.symm]
    exact ⟨a1, a2, n1, c1, n2, c2, rfl⟩
  | [], h => cases h
  | [_], h => exact absurd (congrArg List.length h) (by simp [exA])
  | _ :: _ :: _ :: _, h => exact absurd (congrArg List.length h) (by simp [exA])
theorem ex_check (a1 a2 : Option Addr) (n1 c1 n2 c2 : Nat) : checkN (exPs a1 a2 n1 c1 n2 c2) = (0, 0) := by kernel_rfl
end Go.Proofs.YtiiplikmoodfnaaGreatDoor
/-
  THE WALKS OF instruction, firstLine.
-/
namespace Go.Proofs.YtiiplikmoodfnaaGreatDoor
open Go.RowKit Go.Sort Go.Shelf

theorem spell_S (op : Int) : spellS op = S (sp op) := (S_of _).symm
/-- the four words -/
def nwL : Nat → List UInt8
  | 0 => [97, 114, 103, 115]
  | 1 => [114, 101, 97, 100, 115]
  | 2 => [119, 114, 105, 116, 101, 115]
  | _ => [108, 111, 99, 97, 108, 115]
theorem nwL_len (i : Nat) : (nwL i).length ≤ 6 := by unfold nwL; split <;> simp
def numP (p : Nums) : Nat → Int
  | 0 => p.args
  | 1 => p.reads
  | 2 => p.writes
  | _ => p.locals
def NwAt (W : World) : Prop := ∀ i, i < 4 → W.cell? ⟨1, i, none⟩ = some (.string (S (nwL i)))
theorem NwAt.kept {W W' : World} (h : NwAt W) (hb : Below W.heap.size W W') : NwAt W' := fun i hi => by
  rw [hb.cell (p := ⟨1, i, none⟩) (cell_lt (h i hi))]; exact h i hi
/-- the first line, up to the i-th number -/
def flL (nm : List UInt8) (p : Nums) : Nat → List UInt8
  | 0 => [112, 114, 111, 99, 32] ++ nm
  | i + 1 => flL nm p i ++ (32 :: nwL i ++ [32] ++ dg (numP p i))
theorem numP_in {p : Nums} (h : NIn p) (i : Nat) : In64 (numP p i) := by
  unfold numP
  split
  · exact h.1
  · exact h.2.1
  · exact h.2.2.1
  · exact h.2.2.2
theorem flL_len {nm : List UInt8} {p : Nums} (h : NIn p) (hn : nm.length ≤ 31) : ∀ i, (flL nm p i).length ≤ 36 + 28 * i
  | 0 => by simp [flL]; omega
  | i + 1 => by
    have h1 := flL_len h hn i
    have h2 := nwL_len i
    have h3 := dg_len (numP_in h i)
    simp [flL]; omega
set_option maxRecDepth 100000 in
theorem idx4 (x0 x1 x2 x3 : Int) (i : Nat) (hi : i < 4) : ∀ w, (Go.Instr.index 133 (.agg #[.int .i64 x0, .int .i64 x1, .int .i64 x2, .int .i64 x3]) (.int .i64 (i : Int))).run Tryz.prog w = .ok (.int .i64 (numP ⟨x0, x1, x2, x3⟩ i)) w := by
  obtain rfl | rfl | rfl | rfl : i = 0 ∨ i = 1 ∨ i = 2 ∨ i = 3 := by omega
  all_goals exact fun _ => by kernel_rfl

end Go.Proofs.YtiiplikmoodfnaaGreatDoor
/-
  PLAIN MATHEMATICS OF NUMBERS OF SEVEN BITS A BYTE (promises 1.1 to 1.5).
-/
namespace Go.Proofs.YtiiplikmoodfnaaGreatDoor

/-- the number at the front of bytes, how many bytes it has, what is wrong: behind i bytes, which were acc -/
def scanFrom : Nat → Nat → List Nat → Nat × Nat × Nat
  | _, _, [] => (0, 0, 10)
  | i, acc, c :: r => if (i = 9 ∧ 1 < c) ∨ (0 < i ∧ c = 0) then (0, 0, 11) else if c < 128 then (acc + c * 2 ^ (7 * i), i + 1, 0) else scanFrom (i + 1) (acc + (c - 128) * 2 ^ (7 * i)) r
def scan (C : List Nat) : Nat × Nat × Nat := scanFrom 0 0 C

theorem pow7 (i : Nat) : 2 ^ (7 * (i + 1)) = 128 * 2 ^ (7 * i) := by rw [show 7 * (i + 1) = 7 + 7 * i by omega, Nat.pow_add]
/-- what was written is read -/
theorem scan_uint (R : List Nat) : ∀ (f i acc n : Nat), i + f = 9 → n < 2 ^ (64 - 7 * i) → (0 < i → 0 < n) → scanFrom i acc (uint (f + 1) n ++ R) = (acc + n * 2 ^ (7 * i), i + (uint (f + 1) n).length, 0)
  | f, i, acc, n, hif, hn, h0 => by
    by_cases hge : 128 ≤ n
    · have hi9 : i ≠ 9 := by
        intro e; subst e
        simp at hn; omega
      cases f with
      | zero => omega
      | succ f =>
        rw [uint_more _ _ hge, List.cons_append, scanFrom, if_neg (by omega), if_neg (by omega), Nat.add_sub_cancel]
        rw [scan_uint R f (i + 1) _ (n / 128) (by omega) (by
          have e : 2 ^ (64 - 7 * i) = 128 * 2 ^ (64 - 7 * (i + 1)) := by rw [show 64 - 7 * i = 7 + (64 - 7 * (i + 1)) by omega, Nat.pow_add]
          omega) (by omega)]
        rw [pow7, List.length_cons]
        have e1 : n = n % 128 + 128 * (n / 128) := by omega
        refine Prod.ext ?_ (Prod.ext (by simp only; omega) rfl)
        simp only
        conv => rhs; rw [e1, Nat.add_mul]
        rw [Nat.add_assoc, Nat.mul_comm 128 (n / 128), Nat.mul_assoc]
    · rw [uint_last _ _ hge, List.singleton_append, scanFrom, if_neg ?_, if_pos (by omega)]
      · rfl
      · rintro (⟨e, h⟩ | ⟨h1, h2⟩)
        · subst e; simp at hn; omega
        · have := h0 h1; omega
/-- what is read is what is written -/
theorem scan_back : ∀ (L : List Nat) (i acc n k : Nat), (∀ z ∈ L, z < 256) → i ≤ 9 → scanFrom i acc L = (n, k, 0) →
    ∃ m, n = acc + m * 2 ^ (7 * i) ∧ m < 2 ^ (64 - 7 * i) ∧ i < k ∧ k - i ≤ L.length ∧ L.take (k - i) = uint (10 - i) m ∧ (0 < i → 0 < m)
  | [], i, acc, n, k, _, _, h => by simp [scanFrom] at h
  | c :: r, i, acc, n, k, hz, hi, h => by
    unfold scanFrom at h
    by_cases h1 : (i = 9 ∧ 1 < c) ∨ (0 < i ∧ c = 0)
    · rw [if_pos h1] at h; simp at h
    · rw [if_neg h1] at h
      by_cases h2 : c < 128
      · rw [if_pos h2] at h
        simp only [Prod.mk.injEq, and_true] at h
        obtain ⟨rfl, rfl⟩ := h
        refine ⟨c, rfl, ?_, by omega, by simp, ?_, by omega⟩
        · by_cases e : i = 9
          · subst e; simp; omega
          · have : 2 ^ 7 ≤ 2 ^ (64 - 7 * i) := Nat.pow_le_pow_right (by omega) (by omega)
            omega
        · rw [Nat.add_sub_cancel_left, show 10 - i = (9 - i) + 1 by omega, uint_last _ _ (by omega)]; rfl
      · rw [if_neg h2] at h
        have hi9 : i ≠ 9 := by omega
        obtain ⟨m, hn, hm, hk, hl, ht, hp⟩ := scan_back r (i + 1) _ n k (fun z hz' => hz z (by simp [hz'])) (by omega) h
        have hc := hz c (by simp)
        refine ⟨(c - 128) + 128 * m, ?_, ?_, by omega, by simp; omega, ?_, by omega⟩
        · rw [hn, pow7, Nat.add_mul, Nat.add_assoc, Nat.mul_comm 128 m, Nat.mul_assoc]
        · have e : 2 ^ (64 - 7 * i) = 128 * 2 ^ (64 - 7 * (i + 1)) := by rw [show 64 - 7 * i = 7 + (64 - 7 * (i + 1)) by omega, Nat.pow_add]
          omega
        · have hmp := hp (by omega)
          rw [show k - i = (k - (i + 1)) + 1 by omega, List.take_succ_cons, ht, show 10 - i = (9 - i) + 1 by omega, uint_more _ _ (by omega)]
          rw [show ((c - 128) + 128 * m) % 128 + 128 = c by omega, show ((c - 128) + 128 * m) / 128 = m by omega, show 10 - (i + 1) = 9 - i by omega]
theorem scan_one (C : List Nat) (n k : Nat) (hz : ∀ z ∈ C, z < 256) (h : scan C = (n, k, 0)) : n < 18446744073709551616 ∧ 0 < k ∧ k ≤ C.length ∧ C.take k = uint 10 n := by
  obtain ⟨m, hn, hm, hk, hl, ht, _⟩ := scan_back C 0 0 n k hz (by omega) h
  simp only [Nat.zero_add, Nat.mul_zero, Nat.pow_zero, Nat.mul_one, Nat.sub_zero] at *
  subst hn
  exact ⟨hm, hk, hl, ht⟩
theorem scan_err : ∀ (L : List Nat) (i acc : Nat), (scanFrom i acc L).2.2 ≠ 0 → (scanFrom i acc L).1 = 0 ∧ (scanFrom i acc L).2.1 = 0
  | [], i, acc, _ => by simp [scanFrom]
  | c :: r, i, acc, h => by
    unfold scanFrom at h ⊢
    split
    · simp
    · rename_i h1
      rw [if_neg h1] at h
      split
      · rename_i h2; rw [if_pos h2] at h; simp at h
      · rename_i h2; rw [if_neg h2] at h; exact scan_err r _ _ h

end Go.Proofs.YtiiplikmoodfnaaGreatDoor
/-
  PLAIN MATHEMATICS OF RECORDS (promises 1.7, 1.8). No program, no dump.
-/
namespace Go.Proofs.YtiiplikmoodfnaaGreatDoor.Rec

/-- a number as four bytes, the lowest first -/
def le4 (n : Nat) : List Nat := [n % 256, n / 256 % 256, n / 65536 % 256, n / 16777216 % 256]
/-- the number that the first four bytes are -/
def un4 (L : List Nat) : Nat := L.getD 0 0 + 256 * L.getD 1 0 + 65536 * L.getD 2 0 + 16777216 * L.getD 3 0
def head (kind n : Nat) : List Nat := kind :: le4 n
/-- a record: 1.7 -/
def sealed (kind : Nat) (load : List Nat) : List Nat := head kind load.length ++ le4 (Crc.sum (head kind load.length)) ++ load ++ le4 (Crc.sum load)
/-- kind, load, place behind, error: 1.8 -/
def opened (b : List Nat) (place : Int) : Nat × List Nat × Int × Int :=
  if place < 0 ∨ (b.length : Int) < place then (0, [], 0, 11) else
  if (b.drop place.toNat).length < 9 then (0, [], 0, 10) else
  if Crc.sum ((b.drop place.toNat).take 5) ≠ un4 ((b.drop place.toNat).drop 5) then (0, [], 0, 13) else
  if 16777216 < un4 ((b.drop place.toNat).drop 1) then (0, [], 0, 12) else
  if (b.drop place.toNat).length < un4 ((b.drop place.toNat).drop 1) + 13 then (0, [], 0, 10) else
  if Crc.sum (((b.drop place.toNat).drop 9).take (un4 ((b.drop place.toNat).drop 1))) ≠ un4 ((b.drop place.toNat).drop (9 + un4 ((b.drop place.toNat).drop 1))) then (0, [], 0, 13) else
  ((b.drop place.toNat).getD 0 0, ((b.drop place.toNat).drop 9).take (un4 ((b.drop place.toNat).drop 1)), place + un4 ((b.drop place.toNat).drop 1) + 13, 0)

theorem le4_lt (n : Nat) : ∀ z ∈ le4 n, z < 256 := by
  intro z hz
  simp only [le4, List.mem_cons, List.not_mem_nil, or_false] at hz
  omega
theorem le4_length (n : Nat) : (le4 n).length = 4 := rfl
theorem un4_le4 (n : Nat) (h : n < 4294967296) (R : List Nat) : un4 (le4 n ++ R) = n := by
  simp [un4, le4]
  omega
theorem getD_lt {L : List Nat} (h : ∀ z ∈ L, z < 256) (j : Nat) : L.getD j 0 < 256 := by
  rw [List.getD_eq_getElem?_getD]
  cases e : L[j]? with
  | none => simp
  | some z => simpa using h z (List.mem_of_getElem? e)
theorem un4_lt {L : List Nat} (h : ∀ z ∈ L, z < 256) : un4 L < 4294967296 := by
  have h0 := getD_lt h 0
  have h1 := getD_lt h 1
  have h2 := getD_lt h 2
  have h3 := getD_lt h 3
  unfold un4
  omega
theorem sum_lt {L : List Nat} : Crc.sum L < 4294967296 := by unfold Crc.sum; omega
theorem head_lt {kind n : Nat} (hk : kind < 256) : ∀ z ∈ head kind n, z < 256 := by
  intro z hz
  rcases List.mem_cons.1 hz with rfl | h
  · exact hk
  · exact le4_lt n z h
theorem sealed_lt {kind : Nat} {load : List Nat} (hk : kind < 256) (hl : ∀ z ∈ load, z < 256) : ∀ z ∈ sealed kind load, z < 256 := by
  intro z hz
  simp only [sealed, List.mem_append] at hz
  rcases hz with ((h | h) | h) | h
  · exact head_lt hk z h
  · exact le4_lt _ z h
  · exact hl z h
  · exact le4_lt _ z h
theorem sealed_length (kind : Nat) (load : List Nat) : (sealed kind load).length = load.length + 13 := by
  simp [sealed, head, le4]
/-- disjoint bits: 'or' is '+' -/
theorem or_add (a b k : Nat) (h : a < 2 ^ k) : a ||| 2 ^ k * b = a + 2 ^ k * b := by
  have e := Crc.low_high k (a + 2 ^ k * b)
  rw [Nat.add_mul_mod_self_left, Nat.mod_eq_of_lt h, Nat.add_mul_div_left _ _ (Nat.two_pow_pos k), Nat.div_eq_of_lt h, Nat.zero_add] at e
  rw [e]
  apply Nat.eq_of_testBit_eq
  intro i
  rw [Nat.testBit_or, Nat.testBit_xor, Nat.testBit_two_pow_mul]
  by_cases hi : k ≤ i
  · have : a.testBit i = false := Nat.testBit_lt_two_pow (Nat.lt_of_lt_of_le h (Nat.pow_le_pow_right (by omega) hi))
    simp [this]
  · simp [hi]
theorem or4 (a b c d : Nat) (ha : a < 256) (hb : b < 256) (hc : c < 256) : ((a ||| 256 * b) ||| 65536 * c) ||| 16777216 * d = a + 256 * b + 65536 * c + 16777216 * d := by
  have h1 := or_add a b 8 (by omega)
  have h2 := or_add (a + 256 * b) c 16 (by omega)
  have h3 := or_add (a + 256 * b + 65536 * c) d 24 (by omega)
  rw [show (2 : Nat) ^ 8 = 256 from rfl] at h1
  rw [show (2 : Nat) ^ 16 = 65536 from rfl] at h2
  rw [show (2 : Nat) ^ 24 = 16777216 from rfl] at h3
  rw [h1, h2, h3]

end Go.Proofs.YtiiplikmoodfnaaGreatDoor.Rec
/-
  THE WALK OF codec.scan.
-/
namespace Go.Proofs.YtiiplikmoodfnaaGreatDoor
open Go.RowKit

theorem u8_and127 (c : Nat) (hc : c < 256) : bits .and .u8 (c : Int) 127 = ((c % 128 : Nat) : Int) := by
  have h := u8_and_nat c 127 hc (by omega)
  rw [show (127 : Nat) = 2 ^ 7 - 1 from rfl, Nat.and_two_pow_sub_one_eq_mod] at h
  exact h
theorem or_low (acc c i : Nat) (ha : acc < 2 ^ (7 * i)) (hi : i ≤ 9) (h9 : i = 9 → c % 128 ≤ 1) : bits .or .u64 (acc : Int) (IntKind.u64.wrap ((c : Int) % 128 * 2 ^ (7 * i))) = ((acc + c % 128 * 2 ^ (7 * i) : Nat) : Int) := by
  have hl : c % 128 * 2 ^ (7 * i) < 18446744073709551616 := by
    by_cases e : i = 9
    · subst e
      have := h9 rfl
      have : c % 128 * 2 ^ (7 * 9) ≤ 1 * 2 ^ (7 * 9) := Nat.mul_le_mul_right _ this
      omega
    · have h1 : 2 ^ (7 * i) ≤ 2 ^ 56 := Nat.pow_le_pow_right (by omega) (by omega)
      have h2 : c % 128 * 2 ^ (7 * i) ≤ 127 * 2 ^ 56 := Nat.mul_le_mul (by omega) h1
      omega
  have ha' : acc < 18446744073709551616 := by
    have : 2 ^ (7 * i) ≤ 2 ^ 63 := Nat.pow_le_pow_right (by omega) (by omega)
    omega
  have e1 : ((c : Int) % 128 * 2 ^ (7 * i)) = ((c % 128 * 2 ^ (7 * i) : Nat) : Int) := by simp
  rw [e1, IntKind.wrap_u64]
  generalize hx : c % 128 * 2 ^ (7 * i) = x at *
  rw [show ((x : Int) % 18446744073709551616) = (x : Int) by omega, u64_or_nat acc x ha' hl, ← hx, Nat.mul_comm (c % 128), Rec.or_add acc (c % 128) (7 * i) ha]



end Go.Proofs.YtiiplikmoodfnaaGreatDoor
/-
  THE WALKS OF codec.Reader's METHODS.
-/
namespace Go.Proofs.YtiiplikmoodfnaaGreatDoor
open Go.RowKit

theorem BytesAt.cut {w : World} {b off : Nat} {zs : List Nat} (h : BytesAt w (some ⟨b, off, none⟩) zs) (i n : Nat) : BytesAt w (some ⟨b, off + i, none⟩) ((zs.drop i).take n) := by
  obtain ⟨hz, rfl | ⟨b', off', e, hc⟩⟩ := h
  · exact ⟨by simp, .inl (by simp)⟩
  · cases e
    refine ⟨fun z hz' => hz z (List.mem_of_mem_drop (List.mem_of_mem_take hz')), .inr ⟨b, off + i, rfl, fun j hj => ?_⟩⟩
    simp at hj
    rw [Nat.add_assoc, hc (i + j) (by omega)]
    congr 3
    simp [List.getD_eq_getElem?_getD, show j < n by omega]
theorem BytesAt.drop {w : World} {b off : Nat} {zs : List Nat} (h : BytesAt w (some ⟨b, off, none⟩) zs) (i : Nat) : BytesAt w (some ⟨b, off + i, none⟩) (zs.drop i) := by
  have := h.cut i (zs.drop i).length
  rwa [List.take_length] at this

section
variable {w w1 : World} {r : Nat} {a : Option Addr} {c : Nat} {b : List Nat} {p : Nat} {e : Int}
theorem grown_setCell (w : World) (x : Addr) (v : Value) : w.grownBy (w.setCell x v) (some x.block) :=
  ⟨rfl, rfl, rfl, by simp, fun k _ hk => heap_setCell_other w x k v (fun e => hk (by rw [e]))⟩
theorem grown_drewN (w : World) (n : Nat) (row : Option Nat) : w.grownBy (w.drewN n) row := ⟨rfl, rfl, rfl, Nat.le_refl _, fun _ _ _ => rfl⟩
theorem grown_trans' {x y z : World} {row : Option Nat} (h : x.grownBy y row) (k : y.grownBy z row) : x.grownBy z row :=
  ⟨k.os.trans h.os, k.tape.trans h.tape, k.output.trans h.output, Nat.le_trans h.size k.size, fun i hi hne => (k.block i (Nat.lt_of_lt_of_le hi h.size) hne).trans (h.block i hi hne)⟩
theorem grown_below {x y : World} {row : Option Nat} (h : Below x.heap.size x y) : x.grownBy y row := ⟨h.os, h.tape, h.output, h.size, fun k hk _ => h.block k hk⟩
end

def rdByte (b : List Nat) (p : Nat) (e : Int) : Nat × Nat × Int := if e ≠ 0 then (0, p, e) else if p = b.length then (0, p, 10) else (b.getD p 0, p + 1, 0)


def rdUpto (b : List Nat) (p : Nat) (e : Int) (most : Nat) : Nat × Nat × Int :=
  if e ≠ 0 then (0, p, e) else if (scan (b.drop p)).2.2 ≠ 0 then (0, p, (((scan (b.drop p)).2.2 : Nat) : Int)) else if most < (scan (b.drop p)).1 then (0, p, 12) else ((scan (b.drop p)).1, p + (scan (b.drop p)).2.1, 0)


end Go.Proofs.YtiiplikmoodfnaaGreatDoor
/-
  A PROGRAM'S BYTES.
-/
namespace Go.Proofs.YtiiplikmoodfnaaGreatDoor
open Go.RowKit

/-- an instruction's bytes -/
def instrB (k : K) : List Nat := if k.2 = 0 then [k.1.toNat] else (k.1.toNat + 64) :: uint 10 (fold k.2)
def codeB : List K → List Nat
  | [] => []
  | k :: L => instrB k ++ codeB L
theorem codeB_append (A B : List K) : codeB (A ++ B) = codeB A ++ codeB B := by
  induction A with
  | nil => rfl
  | cons k A ih => simp [codeB, ih]
def headN (p : Nums) (n : Nat) : List Nat := [p.args.toNat, p.reads.toNat, p.writes.toNat, p.locals.toNat, n]
def uints : List Nat → List Nat
  | [] => []
  | x :: r => uint 10 x ++ uints r
theorem uints_append (A B : List Nat) : uints (A ++ B) = uints A ++ uints B := by
  induction A with
  | nil => rfl
  | cons k A ih => simp [uints, ih]
def headB (p : Nums) (n k : Nat) : List Nat := uints ((headN p n).take k)
def opsB (L : List K) : Bool := L.all fun k => isOpB k.1
def progB (p : Nums) (L : List K) : List Nat := headB p L.length 5 ++ codeB L
/-- the bytes, and the error -/
def writtenN (p : Nums) (L : List K) : List Nat × Int :=
  if limB p L.length = false then ([], 30) else if opsB L = false then ([], 31) else (progB p L, 0)

theorem instrB_length (k : K) : (instrB k).length ≤ 12 := by
  unfold instrB
  split
  · simp
  · have := uint_length 10 (fold k.2); simp; omega
theorem codeB_length : ∀ L : List K, (codeB L).length ≤ 12 * L.length
  | [] => by simp [codeB]
  | k :: L => by
    have := codeB_length L
    have := instrB_length k
    simp [codeB]; omega
theorem uints_length : ∀ L : List Nat, (uints L).length ≤ 11 * L.length
  | [] => by simp [uints]
  | k :: L => by
    have := uints_length L
    have := uint_length 10 k
    simp [uints]; omega
theorem headB_length (p : Nums) (n k : Nat) : (headB p n k).length ≤ 55 := by
  have := uints_length ((headN p n).take k)
  have : ((headN p n).take k).length ≤ 5 := by simp [headN]; omega
  unfold headB; omega
theorem codeB_take (L : List K) (k : Nat) (h : k < L.length) : codeB (L.take (k + 1)) = codeB (L.take k) ++ instrB (cd L k) := by
  rw [List.take_succ_eq_append_getElem h, codeB_append]
  simp [codeB, cd, List.getD_eq_getElem?_getD, List.getElem?_eq_getElem h]
theorem codeB_take_length (L : List K) (k : Nat) : (codeB (L.take k)).length ≤ 12 * L.length := by
  have := codeB_length (L.take k)
  have : (L.take k).length ≤ L.length := by simp; omega
  omega
theorem headB_succ (p : Nums) (n k : Nat) (h : k < 5) : headB p n (k + 1) = headB p n k ++ uint 10 ((headN p n).getD k 0) := by
  have hl : k < (headN p n).length := by simpa [headN] using h
  unfold headB
  rw [List.take_succ_eq_append_getElem hl, uints_append]
  simp [uints, List.getD_eq_getElem?_getD, List.getElem?_eq_getElem hl]
theorem uints_lt : ∀ L : List Nat, ∀ z ∈ uints L, z < 256
  | [], z, hz => by simp [uints] at hz
  | k :: L, z, hz => by
    rcases List.mem_append.1 hz with h | h
    · exact uint_lt _ _ z h
    · exact uints_lt L z h
theorem instrB_lt (k : K) (h : isOpB k.1 = true) : ∀ z ∈ instrB k, z < 256 := by
  simp only [isOpB, Bool.and_eq_true, decide_eq_true_eq] at h
  intro z hz
  unfold instrB at hz
  split at hz
  · simp at hz; omega
  · rcases List.mem_cons.1 hz with h1 | h1
    · omega
    · exact uint_lt _ _ z h1
theorem codeB_lt : ∀ L : List K, (∀ k ∈ L, isOpB k.1 = true) → ∀ z ∈ codeB L, z < 256
  | [], _, z, hz => by simp [codeB] at hz
  | k :: L, h, z, hz => by
    rcases List.mem_append.1 hz with h1 | h1
    · exact instrB_lt k (h k (by simp)) z h1
    · exact codeB_lt L (fun x hx => h x (by simp [hx])) z h1
theorem opsB_mem {L : List K} (h : opsB L = true) : ∀ k ∈ L, isOpB k.1 = true := List.all_eq_true.1 h
theorem cd_mem {L : List K} {j : Nat} (h : j < L.length) : cd L j ∈ L := by
  simp [cd, List.getD_eq_getElem?_getD, List.getElem?_eq_getElem h]
theorem opsB_cd {L : List K} (h : opsB L = true) {j : Nat} (hj : j < L.length) : isOpB (cd L j).1 = true := opsB_mem h _ (cd_mem hj)
theorem opsB_take {L : List K} (k : Nat) (h : k < L.length) : opsB (L.take (k + 1)) = (opsB (L.take k) && isOpB (cd L k).1) := by
  unfold opsB
  rw [List.take_succ_eq_append_getElem h, List.all_append]
  simp [cd, List.getD_eq_getElem?_getD, List.getElem?_eq_getElem h]
theorem opsB_false {L : List K} {j : Nat} (hj : j < L.length) (h : isOpB (cd L j).1 = false) : opsB L = false := by
  cases ho : opsB L with
  | false => rfl
  | true => rw [opsB_cd ho hj] at h; cases h
theorem written_lim {p : Nums} {L : List K} (h : limB p L.length = false) : writtenN p L = ([], 30) := by unfold writtenN; rw [if_pos h]
theorem written_op {p : Nums} {L : List K} (h : limB p L.length = true) (ho : opsB L = false) : writtenN p L = ([], 31) := by unfold writtenN; rw [if_neg (by rw [h]; simp), if_pos ho]
theorem written_ok {p : Nums} {L : List K} (h : limB p L.length = true) (ho : opsB L = true) : writtenN p L = (progB p L, 0) := by unfold writtenN; rw [if_neg (by rw [h]; simp), if_neg (by rw [ho]; simp)]
theorem written_length (p : Nums) (L : List K) : (writtenN p L).1.length ≤ 3127 := by
  cases hl : limB p L.length with
  | false => rw [written_lim hl]; simp
  | true =>
    cases ho : opsB L with
    | false => rw [written_op hl ho]; simp
    | true =>
      rw [written_ok hl ho]
      have h1 := ((limB_iff p L.length).1 hl).2.2.2.2
      have h2 := headB_length p L.length 5
      have h3 := codeB_length L
      simp only [progB, List.length_append]; omega
theorem written_lt (p : Nums) (L : List K) : ∀ z ∈ (writtenN p L).1, z < 256 := by
  cases hl : limB p L.length with
  | false => rw [written_lim hl]; simp
  | true =>
    cases ho : opsB L with
    | false => rw [written_op hl ho]; simp
    | true =>
      rw [written_ok hl ho]
      intro z hz
      rcases List.mem_append.1 hz with h1 | h1
      · exact uints_lt _ z h1
      · exact codeB_lt L (opsB_mem ho) z h1

theorem or64 : ∀ o : Nat, o < 37 → bits .or .u8 (o : Int) 64 = ((o + 64 : Nat) : Int) := by decide
theorem wrote_alloc (w : World) (o : Obj) (r : Nat) (v : Value) : Wrote w (w.alloc o) r v v := ⟨rfl, rfl, rfl, by simp, fun k hk _ _ => Below.heap_alloc w o k hk, fun _ h => .inl h⟩
theorem Wrote.kept {w w1 w2 : World} {r : Nat} {v v1 : Value} (h : Wrote w w1 r v v1) (hb : Below w1.heap.size w1 w2) : Wrote w w2 r v v1 :=
  ⟨hb.os.trans h.os, hb.tape.trans h.tape, hb.output.trans h.output, Nat.le_trans h.size hb.size, fun k hk hr hv => (hb.block k (Nat.lt_of_lt_of_le hk h.size)).trans (h.block k hk hr hv), h.lies⟩
end Go.Proofs.YtiiplikmoodfnaaGreatDoor
/-
  THE WALKS OF putInstr, Put.
-/
namespace Go.Proofs.YtiiplikmoodfnaaGreatDoor
open Go.RowKit Go.Sort

end Go.Proofs.YtiiplikmoodfnaaGreatDoor
/-
  THE WALK OF Encode.
-/
namespace Go.Proofs.YtiiplikmoodfnaaGreatDoor
open Go.RowKit Go.Sort

/-- a text's bytes -/
def nmB (s : ByteArray) : List Nat := s.data.toList.map (·.toNat)
theorem nmB_length (s : ByteArray) : (nmB s).length = s.size := by simp [nmB]
theorem nmB_lt (s : ByteArray) : ∀ z ∈ nmB s, z < 256 := by
  intro z hz
  obtain ⟨b, _, rfl⟩ := List.mem_map.1 hz
  exact b.toNat_lt
/-- '[]byte(s)' -/
theorem conv_bytes (w : World) (s : ByteArray) : ∃ cap W', (convert 9 168 (.string s)).run Tryz.prog w = .ok (.slice (some ⟨w.heap.size, 0, none⟩) s.size cap) W' ∧
    BytesAt W' (some ⟨w.heap.size, 0, none⟩) (nmB s) ∧ Below w.heap.size w W' ∧ W'.heap.size = w.heap.size + 1 := by
  refine ⟨_, _, run_bytes_of_string w 9 168 5 s Tryz.underlying9 Tryz.underlying168 Tryz.underlying5, ?_, ?_, ?_⟩
  · refine ⟨nmB_lt s, .inr ⟨_, 0, rfl, fun j hj => ?_⟩⟩
    have hj' : j < s.data.size := by rw [nmB_length] at hj; exact hj
    have e := bytesRow_at s (grownCap w s.size 0 5) j hj'
    have hg : (nmB s).getD j 0 = s.data[j].toNat := by
      rw [List.getD_eq_getElem?_getD]; simp [nmB, Array.getElem?_eq_getElem hj']
    rw [hg, Nat.zero_add]
    show (World.alloc w.drew _).cell? ⟨w.drew.heap.size, j, none⟩ = _
    rw [World.cell?_alloc_mark]
    exact e
  · exact ⟨rfl, rfl, rfl, by show w.heap.size ≤ (w.heap.push _).size; rw [Array.size_push]; omega, fun k hk => by show ((w.heap.push _)[k]?) = _; rw [Array.getElem?_push_lt hk]; exact (Array.getElem?_eq_getElem hk).symm⟩
  · show (w.heap.push _).size = _; rw [Array.size_push]
/-- '[]byte("PRL1")' -/
theorem conv_head (w : World) : ∃ W', (convert 168 168 (.slice (some ⟨w.heap.size, 0, none⟩) 4 4)).run Tryz.prog (w.alloc (.cells #[.int .u8 80, .int .u8 82, .int .u8 76, .int .u8 49] 5)) = .ok (.slice (some ⟨w.heap.size, 0, none⟩) 4 4) W' ∧
    BytesAt W' (some ⟨w.heap.size, 0, none⟩) [80, 82, 76, 49] ∧ Below w.heap.size w W' := by
  refine ⟨_, Lib.run_convert_bytes_const (P := Tryz.prog) w 168 5 _ 4 4 Tryz.underlying168 Tryz.underlying5, ⟨by decide, .inr ⟨_, 0, rfl, fun j hj => ?_⟩⟩, ?_⟩
  · rw [Nat.zero_add, World.cell?_alloc_mark]
    have hj' : j < 4 := by simpa using hj
    obtain rfl | rfl | rfl | rfl : j = 0 ∨ j = 1 ∨ j = 2 ∨ j = 3 := by omega
    all_goals rfl
  · exact (Below.refl _ _).alloc (Nat.le_refl _) _
/-- a procedure's bytes -/
def procB (x : Pr) : List Nat := uint 10 x.name.size ++ nmB x.name ++ (writtenN x.p x.L).1
def procsB : List Pr → List Nat
  | [] => []
  | x :: Ps => procB x ++ procsB Ps
theorem procsB_append (A B : List Pr) : procsB (A ++ B) = procsB A ++ procsB B := by
  induction A with
  | nil => rfl
  | cons k A ih => simp [procsB, ih]
theorem procsB_take (Ps : List Pr) (k : Nat) (h : k < Ps.length) : procsB (Ps.take (k + 1)) = procsB (Ps.take k) ++ procB (pd Ps k) := by
  rw [pd_take Ps k h, procsB_append]; simp [procsB]
theorem procB_length (x : Pr) (h : x.name.size ≤ 31) : (procB x).length ≤ 3200 := by
  have h1 := uint_length 10 x.name.size
  have h2 := nmB_length x.name
  have h3 := written_length x.p x.L
  simp only [procB, List.length_append]; omega
theorem procsB_length : ∀ Ps : List Pr, (∀ x ∈ Ps, x.name.size ≤ 31) → (procsB Ps).length ≤ 3200 * Ps.length
  | [], _ => by simp [procsB]
  | x :: Ps, h => by
    have h1 := procB_length x (h x (by simp))
    have h2 := procsB_length Ps (fun y hy => h y (by simp [hy]))
    simp only [procsB, List.length_append, List.length_cons]; omega
def headL (n : Nat) : List Nat := [80, 82, 76, 49] ++ uint 10 n
/-- a sound library's bytes -/
def encN (Ps : List Pr) : List Nat := headL Ps.length ++ procsB Ps
theorem check_name {Ps : List Pr} (h : (checkN Ps).2 = 0) : Ps.length ≤ 64 ∧ ∀ i, i < Ps.length → chkOne Ps i = 0 := by
  by_cases hl : 64 < Ps.length
  · unfold checkN at h; rw [if_pos hl] at h; cases h
  · refine ⟨by omega, fun i => ?_⟩
    induction i using Nat.strongRecOn with
    | ind i ih =>
      intro hi
      by_cases h0 : chkOne Ps i = 0
      · exact h0
      · have := checkN_stop (by omega) (fun j hj => ih j hj (by omega)) h0 hi
        rw [this] at h; exact absurd h h0
theorem chk_zero {Ps : List Pr} {i : Nat} (h : chkOne Ps i = 0) : nameB (pd Ps i).name = true ∧ hasB (Ps.take i) (pd Ps i).name = false ∧ verifyN (pd Ps i).p (pd Ps i).L = 0 := by
  unfold chkOne at h
  split at h
  · cases h
  · rename_i hn
    refine ⟨?_, ?_, h⟩
    · cases e : nameB (pd Ps i).name with
      | true => rfl
      | false => exact absurd (.inl e) hn
    · cases e : hasB (Ps.take i) (pd Ps i).name with
      | false => rfl
      | true => exact absurd (.inr e) hn
theorem name_size {s : ByteArray} (h : nameB s = true) : 0 < s.size ∧ s.size ≤ 31 := by
  simp only [nameB, Bool.and_eq_true, decide_eq_true_eq] at h; exact ⟨h.1.1, h.1.2⟩
theorem check_small {Ps : List Pr} (h : (checkN Ps).2 = 0) : ∀ x ∈ Ps, x.name.size ≤ 31 := by
  intro x hx
  obtain ⟨i, hi, rfl⟩ := List.mem_iff_getElem.1 hx
  have := (chk_zero ((check_name h).2 i hi)).1
  have e : pd Ps i = Ps[i] := by simp [pd, List.getD_eq_getElem?_getD, List.getElem?_eq_getElem hi]
  rw [e] at this
  exact (name_size this).2
def EPost (Ps : List Pr) (B : Nat) (e : Ending) (w' : World) : Prop :=
  ((checkN Ps).2 ≠ 0 ∧ e = .returned (.tuple #[.slice none 0 0, .int .i64 (checkN Ps).2])) ∨
  ((checkN Ps).2 = 0 ∧ ∃ g, e = .returned (.tuple #[.slice (some ⟨g, 0, none⟩) (encN Ps).length (encN Ps).length, .int .i64 0]) ∧ RowAt w' g (encN Ps) ∧ B ≤ g)
/-- a block that is none of the Writer's -/
theorem Wrote.rbox {W W' : World} {r B : Nat} {v v' : Value} {x : Pr} (ht : Wrote W W' r v v') (h : RBox W B x) (h1 : B ≠ r) (h2 : v.ownBlock ≠ some B) : RBox W' B x := (ht.block B h.lt h1 h2).trans h

end Go.Proofs.YtiiplikmoodfnaaGreatDoor
/-
  append OF A TEXT TO BYTES OF THE CALL'S OWN.
-/
namespace Go.Proofs.YtiiplikmoodfnaaGreatDoor
open Go.RowKit

theorem strCells_nm (s : ByteArray) : Lib.strCells s = (nmB s).map b8 := by
  simp [Lib.strCells, nmB, b8, List.map_map]
theorem run_append_str {w : World} (ty : TypeId) (base : Nat) (v : Value) (L : List Nat) (hown : OwnB w base v L) (s : ByteArray) (hlen : L.length + s.size ≤ 140737488355328) (hbase : base ≤ w.heap.size) :
    ∃ v' w', (Builtin.append_ #[168, 9] ty #[v, .string s]).run Tryz.prog w = .ok v' w' ∧ OwnB w' base v' (L ++ nmB s) ∧ w.grownBy w' v.ownBlock := by
  obtain ⟨i0, hi, hz0, hz1, hz2⟩ := info_parts info8
  obtain ⟨v', w', hr, h2, h3, _⟩ := Lib.run_append_own_string (P := Tryz.prog) w base 168 9 ty 5 i0 Tryz.underlying168 Tryz.underlying9 hi hz0 hz1 hz2 v L.length (L.map b8) hown.2 s (by unfold maxLen; omega) hlen hbase
  refine ⟨v', w', hr, ⟨fun z hz => ?_, ?_⟩, h3⟩
  · rcases List.mem_append.1 hz with h1 | h1
    · exact hown.1 z h1
    · exact nmB_lt s z h1
  · rw [List.length_append, nmB_length, List.map_append, ← strCells_nm]; exact h2
theorem wpList_append_str {w : World} {ops : Array Oper} {rest : List Oper} {o : Oper} {a : Act} {Q : Exit → Act → World → Prop} (hgd : o.guard = none) (sl x : Operand)
    (ho : o.op = .call { callee := .builtin .append, args := #[sl, x], argTypes := #[168, 9] }) (base : Nat) (v : Value) (L : List Nat) (hs : a.eval sl = v) (hown : OwnB w base v L) (s : ByteArray) (hx : a.eval x = .string s)
    (hlen : L.length + s.size ≤ 140737488355328) (hbase : base ≤ w.heap.size)
    (h : ∀ v' w', OwnB w' base v' (L ++ nmB s) → w.grownBy w' v.ownBlock → wpList Tryz.prog ops Q rest (a.put o.dst v') w') : wpList Tryz.prog ops Q (o :: rest) a w := by
  obtain ⟨v', w', hr, h2, h3⟩ := run_append_str o.type base v L hown s hlen hbase
  refine wpList_plain hgd fun K hK' => ?_
  unfold Oper.wp
  simp [execOp, ho, resolve, invoke, builtin, hs, hx, hr, Result.andThen]
  exact hK' _ _ (h v' w' h2 h3)
end Go.Proofs.YtiiplikmoodfnaaGreatDoor
