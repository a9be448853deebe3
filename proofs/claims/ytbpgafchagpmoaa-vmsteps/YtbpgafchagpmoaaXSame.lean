/-
  THE WALKS OF sameWords, sameEffect, AT LIKE ONES.
-/
import Derived.Test.YtbpgafchagpmoaaXEff
import Derived.Deep.QuietTactic
namespace Go.Proofs.Ytbpgafchagpmoaa
open Go.RowKit Go.Sort

theorem eqPut : EqlAt Try.prog 60 (fun x : K => .agg (ck x).toArray) (fun x y => decide (x = y)) := by
  refine ⟨fun x y w => ?_, GuardAt.agg _ (by kernel_rfl)⟩
  have u3 := Try.underlying3
  have a3 := Try.isAgg3
  have z3 := Try.sizeOf3
  have u2 := Try.underlying2
  have a2 := Try.isAgg2
  have z2 := Try.sizeOf2
  have hS : Try.prog.underlying 60 = some (.struct (Try.prog.fieldsOf 60)) := by kernel_rfl
  have hp : Try.prog.stoodInHeld 60 = false := by kernel_rfl
  simp only [ck]
  rw [run_eql_struct, show (10000 : Nat) = 9999 + 1 from rfl, run_equalIn_agg w 9999 60 _ _ hS hp]
  simp only [Program.fieldsOf, Try.underlying60]
  go_simp
  obtain ⟨x1, x2⟩ := x
  obtain ⟨y1, y2⟩ := y
  by_cases h1 : x1 = y1 <;> by_cases h2 : x2 = y2 <;> simp [h1, h2]
theorem run_eqPut (x1 x2 y1 y2 : Int) (w : World) : Sem.run Try.prog (binOp .eql 60 (.agg #[.int .i64 x1, .int .i64 x2]) (.agg #[.int .i64 y1, .int .i64 y2])) w = .ok (.bool (decide ((x1, x2) = (y1, y2)))) w := eqPut.1 (x1, x2) (y1, y2) w
theorem run_putGuard (op : BinOp) (a b : Operand) (x1 x2 y1 y2 : Int) (w : World) : Sem.run Try.prog (eqGuard op 60 a b (.agg #[.int .i64 x1, .int .i64 x2]) (.agg #[.int .i64 y1, .int .i64 y2])) w = .ok () w := eqPut.2 op a b (x1, x2) (y1, y2) w
theorem run_neP (x1 x2 y1 y2 : Int) (w : World) : Sem.run Try.prog (binOp .neq 60 (.agg #[.int .i64 x1, .int .i64 x2]) (.agg #[.int .i64 y1, .int .i64 y2])) w = .ok (.bool (!decide ((x1, x2) = (y1, y2)))) w := by
  have u3 := Try.underlying3
  have a3 := Try.isAgg3
  have z3 := Try.sizeOf3
  have u2 := Try.underlying2
  have a2 := Try.isAgg2
  have z2 := Try.sizeOf2
  have hS : Try.prog.underlying 60 = some (.struct (Try.prog.fieldsOf 60)) := by kernel_rfl
  have hp : Try.prog.stoodInHeld 60 = false := by kernel_rfl
  rw [run_neq_struct, show (10000 : Nat) = 9999 + 1 from rfl, run_equalIn_agg w 9999 60 _ _ hS hp]
  simp only [Program.fieldsOf, Try.underlying60]
  go_simp
  by_cases h1 : x1 = y1 <;> by_cases h2 : x2 = y2 <;> simp [h1, h2]
theorem run_nePut (x1 x2 : Int) (w : World) : Sem.run Try.prog (binOp .neq 60 (.agg #[.int .i64 x1, .int .i64 x2]) (.agg #[.int .i64 x1, .int .i64 x2])) w = .ok (.bool false) w := by
  have h := run_neP x1 x2 x1 x2 w
  rw [h]; simp
theorem CellsAt.grew {w w1 : World} {ao : Option Addr} {xs : List Value} (h : CellsAt w ao xs) (hg : Grew w w1) : CellsAt w1 ao xs := h.below hg.below
theorem CellsAt.get {w : World} {ao : Option Addr} {S : List Int} (h : CellsAt w ao (S.map iv)) (k : Nat) (hk : k < S.length) : ∃ b off, ao = some ⟨b, off, none⟩ ∧ w.cell? ⟨b, off + k, none⟩ = some (.int .i64 (S.getD k 0)) := by
  rcases h with h | ⟨b, off, rfl, hc⟩
  · have := congrArg List.length h; simp at this; subst this; simp at hk
  · exact ⟨b, off, rfl, hc k _ (by simp [List.getD_eq_getElem?_getD, List.getElem?_eq_getElem hk])⟩
theorem CellsAt.put {w : World} {ao : Option Addr} {S : List K} (h : CellsAt w ao (cks S)) (k : Nat) (hk : k < S.length) : ∃ b off, ao = some ⟨b, off, none⟩ ∧ w.cell? ⟨b, off + k * 2, none⟩ = some (.int .i64 (kd S k).1) ∧ w.cell? ⟨b, off + k * 2 + 1, none⟩ = some (.int .i64 (kd S k).2) := by
  obtain ⟨e1, e2⟩ := cks_at S k hk
  rcases h with h | ⟨b, off, rfl, hc⟩
  · have := congrArg List.length h; rw [cks_length] at this; simp only [List.length_nil] at this; omega
  · exact ⟨b, off, rfl, hc _ _ e1, by rw [Nat.add_assoc]; exact hc _ _ e2⟩
theorem sameWords_eq (w : World) (a1 a2 : Option Addr) (n c1 c2 : Nat) (S : List Int) (h1 : CellsAt w a1 (S.map iv)) (h2 : CellsAt w a2 (S.map iv)) (hn : n = S.length) (hm : n ≤ 1000000) :
    Calls Try.prog 29 #[.slice a1 n c1, .slice a2 n c2] w fun e w' => e = .returned (.bool true) ∧ Grew w w' := by
  have H1 : Hid (CellsAt w a1 (S.map iv)) := h1
  have H2 : Hid (CellsAt w a2 (S.map iv)) := h2
  have HN : Hid (n = S.length) := hn
  clear h1 h2 hn
  go_enter Try.func29, Try.ntmps29
  go_wp2_with fail
  go_loopw [5] (fun x wr => ∃ k : Nat, k ≤ n ∧ x = .int .i64 (k : Int) ∧ Hid (Grew w wr)) (fun x _ => n - (intOf x).toNat)
  case atStart => exact ⟨0, by omega, rfl, Grew.refl _⟩
  case round =>
    obtain ⟨k, hk, rfl, HG⟩ := hrel
    by_cases hlt : k < n
    · obtain ⟨b1, o1, rfl, c11⟩ := (H1.out.grew HG.out).get k (by have := HN.out; omega)
      obtain ⟨b2, o2, rfl, c21⟩ := (H2.out.grew HG.out).get k (by have := HN.out; omega)
      generalize S.getD k 0 = z at *
      go_wp2_with fail
      go_quiet (fail)
      go_wp2
      go_roundw
      case rel => exact ⟨k + 1, by omega, by go_num, HG.out.drewN nq⟩
      case measure => simp [intOf]; omega
    · obtain rfl : k = n := by omega
      go_wp2
      go_ret
      exact ⟨rfl, HG.out⟩

/-- an effect that can be read -/
def EfR (w : World) (a1 a2 : Option Addr) (x : Ef) : Prop := CellsAt w a1 (x.out.map iv) ∧ CellsAt w a2 (cks x.puts)
theorem EfAt.read {w : World} {base : Nat} {a1 a2 : Option Addr} {l1 l2 k1 k2 : Nat} {x : Ef} (h : EfAt w base (.slice a1 l1 k1) (.slice a2 l2 k2) x) : EfR w a1 a2 x ∧ l1 = x.out.length ∧ l2 = x.puts.length := by
  obtain ⟨b1, c1, e1, _⟩ := own_slice h.1
  obtain ⟨b2, c2, e2, _⟩ := own_slice h.2
  simp only [Value.slice.injEq] at e1 e2
  obtain ⟨rfl, rfl, rfl⟩ := e1
  obtain ⟨rfl, rfl, rfl⟩ := e2
  exact ⟨⟨own_read h.1, own_read h.2⟩, rfl, rfl⟩
theorem EfR.grew {w w1 : World} {a1 a2 : Option Addr} {x : Ef} (h : EfR w a1 a2 x) (hg : Go.RowKit.Below w.heap.size w w1) : EfR w1 a1 a2 x := ⟨h.1.below hg, h.2.below hg⟩
/-- an effect's value -/
abbrev efR (x : Ef) (a1 : Option Addr) (k1 : Nat) (a2 : Option Addr) (k2 : Nat) : Value := efV x (.slice a1 x.out.length k1) (.slice a2 x.puts.length k2)
abbrev eP (co : Bool) (cd us : Int) (a1 : Option Addr) (no k1 : Nat) (a2 : Option Addr) (np k2 : Nat) (st : Int) : Array Value := #[.bool co, .int .i64 cd, .int .i64 us, .slice a1 no k1, .slice a2 np k2, .int .i64 st]
abbrev eQ (co : Bool) (cd us : Int) (a1 : Option Addr) (no k1 : Nat) (a2 : Option Addr) (np k2 : Nat) (st : Int) : Obj := .cells (eP co cd us a1 no k1 a2 np k2 st) 33
set_option maxRecDepth 100000 in
set_option maxHeartbeats 1000000 in
theorem sameEffect_g (w : World) (co : Bool) (cd us st : Int) (S : List Int) (U : List K) (no np : Nat) (hno : no = S.length) (hnp : np = U.length) (a1 a2 b1 b2 : Option Addr) (k1 k2 m1 m2 : Nat) (h1 : CellsAt w a1 (S.map iv)) (h1p : CellsAt w a2 (cks U)) (h2 : CellsAt w b1 (S.map iv)) (h2p : CellsAt w b2 (cks U)) (ho : no ≤ 1000000) (hp : np ≤ 1000000) :
    Calls Try.prog 12 #[.agg (eP co cd us a1 no k1 a2 np k2 st), .agg (eP co cd us b1 no m1 b2 np m2 st)] w fun e w' => e = .returned (.bool true) ∧ Go.RowKit.Below w.heap.size w w' := by
  have HB0 : Hid (Go.RowKit.Below w.heap.size w ((w.alloc (eQ co cd us a1 no k1 a2 np k2 st)).alloc (eQ co cd us b1 no m1 b2 np m2 st))) := ((Below.refl _ _).alloc (Nat.le_refl _) _).alloc (by simp) _
  have HR1 : Hid (RE ((w.alloc (eQ co cd us a1 no k1 a2 np k2 st)).alloc (eQ co cd us b1 no m1 b2 np m2 st)) w.heap.size (.bool co) (.int .i64 cd) (.int .i64 us) (.slice a1 no k1) (.slice a2 np k2) (.int .i64 st)) := (heap_alloc_old _ _ (by simp)).trans (heap_alloc_new _ _ rfl)
  have HR2 : Hid (RE ((w.alloc (eQ co cd us a1 no k1 a2 np k2 st)).alloc (eQ co cd us b1 no m1 b2 np m2 st)) (w.heap.size + 1) (.bool co) (.int .i64 cd) (.int .i64 us) (.slice b1 no m1) (.slice b2 np m2) (.int .i64 st)) := heap_alloc_new _ _ (by simp)
  have HW := sameWords_eq ((w.alloc (eQ co cd us a1 no k1 a2 np k2 st)).alloc (eQ co cd us b1 no m1 b2 np m2 st)) a1 b1 no k1 m1 S (h1.below HB0.out) (h2.below HB0.out) hno ho
  have H1 : Hid (CellsAt w a2 (cks U)) := h1p
  have H2 : Hid (CellsAt w b2 (cks U)) := h2p
  have HNp : Hid (np = U.length) := hnp
  clear h1 h2 ho h1p h2p hno hnp
  go_enter Try.func12, Try.ntmps12
  go_wp2_with fail
  refine HW.mono ?_
  rintro e w1 ⟨rfl, hg⟩
  have HB1 : Hid (Go.RowKit.Below w.heap.size w w1) := HB0.out.trans (hg.below.mono HB0.out.size)
  have HX1 : Hid (RE w1 w.heap.size (.bool co) (.int .i64 cd) (.int .i64 us) (.slice a1 no k1) (.slice a2 np k2) (.int .i64 st)) := HR1.out.below hg.below HR1.out.lt
  have HX2 : Hid (RE w1 (w.heap.size + 1) (.bool co) (.int .i64 cd) (.int .i64 us) (.slice b1 no m1) (.slice b2 np m2) (.int .i64 st)) := HR2.out.below hg.below HR2.out.lt
  clear hg HW HR1 HR2 HB0
  obtain ⟨_, _, _, _, x4, _⟩ := HX1.out.cells
  obtain ⟨_, _, _, _, y4, _⟩ := HX2.out.cells
  go_wp2_with fail
  go_loopw [5] (fun x wr => ∃ k : Nat, k ≤ np ∧ x = .int .i64 (k : Int) ∧ Hid (Grew w1 wr)) (fun x _ => np - (intOf x).toNat)
  case atStart => exact ⟨0, by omega, rfl, Grew.refl _⟩
  case round =>
    clear x4 y4
    obtain ⟨k, hk, rfl, HG⟩ := hrel
    obtain ⟨_, _, _, _, x4, _⟩ := (HX1.out.below HG.out.below HX1.out.lt).cells
    obtain ⟨_, _, _, _, y4, _⟩ := (HX2.out.below HG.out.below HX2.out.lt).cells
    by_cases hlt : k < np
    · obtain ⟨g1, o1, rfl, c11, c12⟩ := ((H1.out.below HB1.out).grew HG.out).put k (by have := HNp.out; omega)
      obtain ⟨g2, o2, rfl, c21, c22⟩ := ((H2.out.below HB1.out).grew HG.out).put k (by have := HNp.out; omega)
      generalize (kd U k).1 = t at *
      generalize (kd U k).2 = r at *
      have hq := run_nePut t r
      have hgd := fun op x y => run_putGuard op x y t r t r
      go_wp2_with fail
      go_quiet (fail)
      go_wp2
      go_roundw
      case rel => exact ⟨k + 1, by omega, by go_num, HG.out.drewN nq⟩
      case measure => simp [intOf]; omega
    · obtain rfl : k = np := by omega
      go_wp2
      go_ret
      exact ⟨rfl, HB1.out.trans (HG.out.below.mono HB1.out.size)⟩
theorem sameEffect_eq (w : World) (x : Ef) (a1 a2 b1 b2 : Option Addr) (k1 k2 m1 m2 : Nat) (h1 : EfR w a1 a2 x) (h2 : EfR w b1 b2 x) (ho : x.out.length ≤ 1000000) (hp : x.puts.length ≤ 1000000) :
    Calls Try.prog 12 #[efR x a1 k1 a2 k2, efR x b1 m1 b2 m2] w fun e w' => e = .returned (.bool true) ∧ Go.RowKit.Below w.heap.size w w' :=
  sameEffect_g w x.commit x.code x.user (x.steps : Int) x.out x.puts x.out.length x.puts.length rfl rfl a1 a2 b1 b2 k1 k2 m1 m2 h1.1 h1.2 h2.1 h2.2 ho hp
end Go.Proofs.Ytbpgafchagpmoaa
