/-
  LISTS OF KEYS AS ARGUMENTS; stands, sameKeys.
-/
import Derived.Test.YtnjgaibcpcpmcabKRises
import Derived.Test.YtnjgaibcpcpmcabKNe
namespace Go.Proofs.Ytnjgaibcpcpmcab
open Go.RowKit Go.Sort

/-- A LIST OF KEYS: a slice, its length, its cells -/
structure Lst (w : World) (ao : Option Addr) (n cap : Nat) (L : List K) : Prop where
  len : n = L.length
  at_ : KeysAt w ao L
  nil : ao = none → cap = 0
  cap : n ≤ cap
theorem Lst.kept {w w1 : World} {ao : Option Addr} {n cap : Nat} {L : List K} (h : Lst w ao n cap L) (hb : Below w.heap.size w w1) : Lst w1 ao n cap L := ⟨h.len, h.at_.kept hb, h.nil, h.cap⟩
theorem Lst.far {w w1 : World} {ao : Option Addr} {n cap B : Nat} {L : List K} (h : Lst w ao n cap L) (hb : Below B w w1) (hB : ∀ a, L ≠ [] → ao = some a → a.block < B) : Lst w1 ao n cap L := ⟨h.len, h.at_.below hb hB, h.nil, h.cap⟩
def Flat (ao : Option Addr) : Prop := ∀ a, ao = some a → a.spot = none
theorem OwnK.lst {w : World} {base : Nat} {v : Value} {L : List K} (h : OwnK w base v L) : ∃ ao n cap, v = .slice ao n cap ∧ Lst w ao n cap L ∧ Flat ao := by
  rcases h.shape with ⟨rfl, rfl⟩ | ⟨g, cap, rfl, _, _, hc, _, hk⟩
  · exact ⟨none, 0, 0, rfl, ⟨rfl, .inl rfl, fun _ => rfl, Nat.le_refl _⟩, fun _ e => by cases e⟩
  · exact ⟨_, _, cap, rfl, ⟨rfl, hk, by simp, hc⟩, fun a e => by cases e; rfl⟩
theorem Lst.at {w : World} {ao : Option Addr} {n cap : Nat} {L : List K} (h : Lst w ao n cap L) (k : Nat) (hk : k < n) : ∃ b off, ao = some ⟨b, off, none⟩ ∧ w.cell? ⟨b, off + k * 2, none⟩ = some (.int .i64 (kd L k).1) ∧ w.cell? ⟨b, off + k * 2 + 1, none⟩ = some (.int .i64 (kd L k).2) := by
  have hl : k < L.length := by have := h.len; omega
  rcases h.at_ with h0 | ⟨b, off, rfl, hc⟩
  · rw [h0] at hl; simp at hl
  · exact ⟨b, off, rfl, KeysAt.at hc k hl⟩

theorem eq_of_takes {A B : List K} (hl : A.length = B.length) (k : Nat) (hk : k < A.length) : (A.take (k + 1) = B.take (k + 1)) ↔ (A.take k = B.take k ∧ kd A k = kd B k) := by
  rw [take_kd A k hk, take_kd B k (by omega)]
  constructor
  · intro h
    have := List.append_inj h (by simp; omega)
    exact ⟨this.1, by simpa using this.2⟩
  · rintro ⟨h1, h2⟩; rw [h1, h2]

set_option maxHeartbeats 1000000 in
theorem sameKeys_any (w : World) (ao bo : Option Addr) (n cap m cb : Nat) (A B : List K) (h : Lst w ao n cap A) (h' : Lst w bo m cb B) (hm : n ≤ 8796093022208) (hm' : m ≤ 8796093022208) :
    Calls Try.prog 23 #[.slice ao n cap, .slice bo m cb] w fun e w' => e = .returned (.bool (decide (A = B))) ∧ ∃ q, w' = w.drewN q := by
  have HA : Hid (Lst w ao n cap A) := h
  have HB : Hid (Lst w bo m cb B) := h'
  clear h h'
  by_cases hnm : n = m
  case neg =>
    have HE : Hid (decide (A = B) = false) := decide_eq_false fun e => hnm (by have h1 := HA.out.len; have h2 := HB.out.len; rw [e] at h1; omega)
    have hd : ((n : Int) != (m : Int)) = true := by rw [bne_iff_ne]; omega
    go_enter Try.func23, Try.ntmps23
    go_wp2
    go_ret
    exact ⟨by rw [HE.out]; rfl, 0, rfl⟩
  subst hnm
  have HL : Hid (A.length = B.length) := HA.out.len.symm.trans HB.out.len
  go_enter Try.func23, Try.ntmps23
  go_wp2_with fail
  go_loopw [5] (fun x wr => ∃ k q : Nat, k ≤ n ∧ x = .int .i64 (k : Int) ∧ wr = w.drewN q ∧ Hid (A.take k = B.take k)) (fun x _ => n - (intOf x).toNat)
  case atStart => exact ⟨0, 0, Nat.zero_le _, rfl, rfl, by simp [Hid]⟩
  case round =>
    obtain ⟨k, q, hk, rfl, rfl, HI⟩ := hrel
    by_cases hlt : k < n
    · obtain ⟨b, off, rfl, c1, c2⟩ := HA.out.at k hlt
      obtain ⟨d, doff, rfl, c3, c4⟩ := HB.out.at k hlt
      have HT : Hid (A.take (k + 1) = B.take (k + 1) ↔ (A.take k = B.take k ∧ kd A k = kd B k)) := eq_of_takes HL.out k (by have := HA.out.len; omega)
      generalize kd A k = kk at *
      generalize kd B k = jj at *
      obtain ⟨u, s⟩ := kk
      obtain ⟨t, r⟩ := jj
      simp only at c1 c2 c3 c4
      have hq := run_neKey u s t r
      have hgd := fun op x y => run_eqGuard op x y u s t r
      by_cases he : (u, s) = (t, r)
      · have HE : Hid (A.take (k + 1) = B.take (k + 1)) := HT.out.2 ⟨HI.out, he⟩
        rw [show decide ((u, s) = (t, r)) = true by simpa using he] at hq
        simp only [Bool.not_true] at hq
        clear he HT HI
        go_wp2_with fail
        go_quiet (fail)
        go_wp2_with fail
        go_roundw
        case rel => exact ⟨k + 1, q + nq, by omega, by go_num, rfl, HE⟩
        case measure => simp [intOf]; omega
      · have HE : Hid (decide (A = B) = false) := decide_eq_false fun e => he (HT.out.1 (by rw [e])).2
        rw [show decide ((u, s) = (t, r)) = false by simpa using he] at hq
        simp only [Bool.not_false] at hq
        clear he HT HI
        go_wp2_with fail
        go_quiet (fail)
        go_wp2
        go_ret
        exact ⟨by rw [HE.out]; rfl, q + nq, by rw [World.drewN_drewN]⟩
    · obtain rfl : k = n := by omega
      have HE : Hid (decide (A = B) = true) := decide_eq_true (by
        have h1 := HI.out
        have h2 := HA.out.len
        have h3 := HB.out.len
        rwa [List.take_of_length_le (by omega), List.take_of_length_le (by omega)] at h1)
      go_wp2
      go_ret
      exact ⟨by rw [HE.out]; rfl, q, rfl⟩

end Go.Proofs.Ytnjgaibcpcpmcab
