/-
  THE WALK OF kept, NO LISTS OF LISTS HANDED OUT.
-/
import Derived.Test.YtnjgaibcpcpmcaaKAskH
namespace Go.Proofs.Ytnjgaibcpcpmcaa
open Go.RowKit Go.Sort

def nth (xs : List Value) (i : Nat) : Value := xs.getD i (.slice none 0 0)
theorem nth_get {xs : List Value} {i : Nat} (h : i < xs.length) : xs[i]? = some (nth xs i) := by simp [nth, List.getD_eq_getElem?_getD, List.getElem?_eq_getElem h]
theorem OwnR.listsAt {w : World} {base n c : Nat} {a : Option Addr} {xs : List Value} (h : OwnR w base (.slice a n c) xs) : n = xs.length ∧ ListsAt w a xs.length (nth xs) := by
  rcases h.shape with ⟨e, rfl⟩ | ⟨g, cap, e, _, _, _, hc⟩
  · cases e; exact ⟨rfl, .inl rfl⟩
  · cases e; exact ⟨rfl, .inr ⟨g, 0, rfl, fun i hi => by rw [Nat.zero_add]; exact hc i _ (nth_get hi)⟩⟩
theorem Sh.shelf0 {w : World} {base SB n c : Nat} {O : Nat → Option Nat} {a : Option Addr} {wv : Value} {xs ys : List Value} {Ms : Nat → List K} (h : Sh w base SB O (.slice a n c) wv xs ys Ms) : Shelf0 w base xs.length a (nth xs) Ms := by
  refine ⟨h.lists.listsAt.2, fun j hj => (h.x j _ (nth_get hj)).1, fun i j hi hj hne b h1 h2 => ?_, fun j hj a' ha h1 => ?_, by have := h.sb.1; have := h.lt; omega⟩
  · have e1 := (h.x i _ (nth_get hi)).2 b h1
    have e2 := (h.x j _ (nth_get hj)).2 b h2
    rw [e1] at e2
    have := Option.some.inj e2
    omega
  · have e1 := (h.x j _ (nth_get hj)).2 _ h1
    have e2 := h.lO a'.block (by rw [ha]; rfl)
    rw [e1] at e2
    have := Option.some.inj e2
    omega

set_option maxHeartbeats 4000000 in
set_option maxRecDepth 100000 in
theorem kept_any (w : World) (base SB : Nat) (O : Nat → Option Nat) (lv wv : Value) (xs ys : List Value) (Ms : Nat → List K) (hS : Sh w base SB O lv wv xs ys Ms) (hlen : ys.length = xs.length) (hx : xs.length ≤ 2097152) (hM : ∀ j, j < xs.length → (Ms j).length ≤ 2097152) :
    Calls Try.prog 33 #[.pointer (some ⟨SB, 0, none⟩)] w fun e w' => e = .returned (.bool true) ∧ Below base w w' := by
  obtain ⟨al, cl, rfl⟩ := rows_shape hS.lists
  obtain ⟨aw, cw, rfl⟩ := rows_shape hS.want
  have HS : Hid (Sh w base SB O (.slice al xs.length cl) (.slice aw ys.length cw) xs ys Ms) := hS
  have HM : Hid (∀ j, j < xs.length → (Ms j).length ≤ 2097152) := hM
  have HC : Hid (∀ W, Below w.heap.size w W → W.cell? ⟨SB, 0, none⟩ = some (.slice al xs.length cl) ∧ W.cell? ⟨SB, 1, none⟩ = some (.slice aw ys.length cw) ∧ W.cell? ⟨SB, 2, none⟩ = some (.slice none 0 0) ∧ W.cell? ⟨SB, 3, none⟩ = some (.slice none 0 0)) := fun W hW => by
    have h := (HS.out.below hW).cell
    refine ⟨?_, ?_, ?_, ?_⟩ <;> simp [World.cell?, h]
  have HSL : Hid (∀ n, Calls Try.prog 53 #[.slice al xs.length cl, .slice aw ys.length cw] (w.drewN n) fun e w' => e = .returned (.bool true) ∧ ∃ m, w' = (w.drewN n).drewN m) := fun n => by
    have hd : Below w.heap.size w (w.drewN n) := ⟨rfl, rfl, rfl, Nat.le_refl _, fun _ _ => rfl⟩
    have hs := HS.out.below hd
    rw [hlen]
    have h1 := hs.want.listsAt.2
    rw [hlen] at h1
    exact sameLists_any (w.drewN n) al aw xs.length cl cw (nth xs) (nth ys) Ms hs.lists.listsAt.2 h1
      (fun i hi => by have h2 := (hs.x i _ (nth_get hi)).1; obtain ⟨a, m, c, e⟩ := own_lst h2; exact ⟨a, m, c, e, own_lst2 (e ▸ h2)⟩)
      (fun i hi => by have h2 := (hs.y i _ (nth_get (by omega))).1; obtain ⟨a, m, c, e⟩ := own_lst h2; exact ⟨a, m, c, e, own_lst2 (e ▸ h2)⟩)
      (fun i hi => Nat.le_trans (HM.out i hi) (by omega)) (by omega)
  have HL : Hid (ys.length = xs.length) := hlen
  obtain ⟨c0, c1, c2, c3⟩ := HC.out w (Below.refl _ _)
  clear hS hM hlen
  go_enter Try.func33, Try.ntmps33
  go_wp2_with fail
  go_quiet ((go_at_call 53; exact Calls.quiet_of (HSL.out _)))
  have hd : Below w.heap.size w (w.drewN nq) := ⟨rfl, rfl, rfl, Nat.le_refl _, fun _ _ => rfl⟩
  have HS1 : Hid (Sh (w.drewN nq) base SB O (.slice al xs.length cl) (.slice aw ys.length cw) xs ys Ms) := HS.out.below hd
  have HB1 : Hid (Below base w (w.drewN nq)) := ⟨rfl, rfl, rfl, Nat.le_refl _, fun _ _ => rfl⟩
  clear c0 c1 c2 c3
  obtain ⟨c0, c1, c2, c3⟩ := HC.out _ hd
  clear hd HSL HC
  generalize w.drewN nq = W1 at *
  go_wp2_with fail
  go_loopw [4, 3] (fun x y wr => x = .int .i64 0 ∧ y = .bool true ∧ Hid (wr = W1)) (fun _ _ _ => 0)
  case atStart => exact ⟨rfl, rfl, rfl⟩
  case round =>
    obtain ⟨rfl, rfl, hw1⟩ := hrel
    obtain ⟨w1, e1⟩ : ∃ x, x = wr := ⟨_, rfl⟩
    rw [← e1] at hw1 ⊢
    have c2a : w1.cell? ⟨SB, 2, none⟩ = some (.slice none 0 0) := by rw [hw1.out]; exact c2
    clear e1
    go_wp2_with fail
    go_loopw [5] (fun x w2 => x = .int .i64 0 ∧ Hid (w2 = W1)) (fun _ _ => 0)
    case atStart => exact ⟨rfl, hw1⟩
    case round =>
      clear hw1 c2a
      obtain ⟨rfl, hw1⟩ := hrel
      obtain ⟨w2, e1⟩ : ∃ x, x = wr := ⟨_, rfl⟩
      rw [← e1] at hw1 ⊢
      have c2a : w2.cell? ⟨SB, 2, none⟩ = some (.slice none 0 0) := by rw [hw1.out]; exact c2
      clear e1
      go_wp2_with fail
      go_loopw [7, 3] (fun x y w2 => x = .int .i64 0 ∧ y = .bool true ∧ Hid (w2 = W1)) (fun _ _ _ => 0)
      case atStart => exact ⟨rfl, rfl, hw1⟩
      case round =>
        clear hw1 c2a
        obtain ⟨rfl, rfl, hw1⟩ := hrel
        have HS2 : Hid (Sh wr base SB O (.slice al xs.length cl) (.slice aw ys.length cw) xs ys Ms ∧ Below base w wr) := by rw [Hid, hw1.out]; exact ⟨HS1.out, HB1.out⟩
        have c2a : wr.cell? ⟨SB, 2, none⟩ = some (.slice none 0 0) := by rw [hw1.out]; exact c2
        have c0a : wr.cell? ⟨SB, 0, none⟩ = some (.slice al xs.length cl) := by rw [hw1.out]; exact c0
        clear hw1 c0 c1 c2 c3 HS1 HB1
        go_wp2_with fail
        refine (apart_any wr base xs.length cl al (nth xs) Ms HS2.out.1.shelf0 (by omega) (fun j hj => Nat.le_trans (HM.out j hj) (by omega))).mono ?_
        rintro e w3 ⟨rfl, hb3⟩
        have HE : Hid (Below base w w3) := HS2.out.2.trans hb3
        clear hb3
        go_wp2
        go_ret
        exact ⟨rfl, HE.out⟩

end Go.Proofs.Ytnjgaibcpcpmcaa
