import Derived.Test.YtkjmeknaedapjaaDoorJ25
import Derived.Test.YtkjmeknaedapjaaDoorJ28
/-
  WHAT ENCODE AND DECODE ANSWER, AS ONE FORM EACH.
-/
namespace Go.Proofs.YtkjmeknaedapjaaDoor
open Go.RowKit Go.Sort

theorem procsB_core {Ps Qs : List Pr} (h : Ps.map core = Qs.map core) : procsB Ps = procsB Qs := by
  induction Ps generalizing Qs with
  | nil => cases Qs with
    | nil => rfl
    | cons _ _ => simp at h
  | cons x Ps ih => cases Qs with
    | nil => simp at h
    | cons y Qs =>
      simp only [List.map_cons, List.cons.injEq, core, Prod.mk.injEq] at h
      simp only [procsB, procB]
      rw [ih h.2, h.1.1, h.1.2.1, h.1.2.2]
theorem encR_core {Ps Qs : List Pr} (h : Ps.map core = Qs.map core) : encR Ps = encR Qs := by
  have hl : Ps.length = Qs.length := by simpa using congrArg List.length h
  unfold encR encN
  rw [check_core h, procsB_core h, hl]
theorem digN_core {Ps Qs : List Pr} (h : Ps.map core = Qs.map core) : digN Ps = digN Qs := by
  have hl : Ps.length = Qs.length := by simpa using congrArg List.length h
  unfold digN encN
  rw [check_core h, procsB_core h, hl]
theorem encR_length (Ps : List Pr) : (encR Ps).length ≤ 300000 := by
  by_cases h : (checkN Ps).2 = 0
  · rw [encR_ok h]; exact encN_length h
  · rw [encR_bad h]; simp
/-- Encode's answer -/
theorem EPost.opn {Ps : List Pr} {B : Nat} {e : Ending} {W : World} (h : EPost Ps B e W) : ∃ a c, e = .returned (.tuple #[.slice a (encR Ps).length c, .int .i64 (checkN Ps).2]) ∧ OwnB W B (.slice a (encR Ps).length c) (encR Ps) := by
  rcases h with ⟨h0, he⟩ | ⟨h0, g, he, hr, hg⟩
  · rw [encR_bad h0]; exact ⟨none, 0, he, OwnB.nil _ _⟩
  · rw [encR_ok h0, h0]; exact ⟨_, _, he, OwnB.ofRow hr (encN_lt Ps) (by have := encN_length h0; unfold maxLen; omega) hg⟩
/-- the library of bytes -/
def mkP (x : Rp) : Pr := ⟨x.1, x.2.1, none, x.2.2.length, x.2.2.length, x.2.2⟩
theorem core_mkP (x : Rp) : core (mkP x) = x := rfl
theorem map_mkP (L : List Rp) : (L.map mkP).map core = L := by rw [List.map_map]; simp [Function.comp_def, core_mkP]
def chkR (b : List Nat) : Nat × Int := checkN ((decA b).1.map mkP)
def resL (b : List Nat) : List Rp := if decE b = 0 ∧ (chkR b).2 = 0 then (decA b).1 else []
def atR (b : List Nat) : Int := if decE b = 0 ∧ (chkR b).2 ≠ 0 then ((chkR b).1 : Int) else 0
def errR (b : List Nat) : Int := if decE b = 0 then (chkR b).2 else decE b
theorem chkR_of {b : List Nat} {Ps : List Pr} (h : Ps.map core = (decA b).1) : checkN Ps = chkR b := check_core (by rw [h, map_mkP])
/-- a library whose blocks lie from B on -/
structure Up (W : World) (B : Nat) (ao : Option Addr) (cap : Nat) (Qs : List Pr) : Prop where
  own : OwnP W B (.slice ao Qs.length cap) Qs
  ok : ∀ x ∈ Qs, PrC W B x
theorem Up.nil (W : World) (B : Nat) : Up W B none 0 [] := ⟨OwnP.nil _ _, fun x hx => by cases hx⟩
theorem Up.lib {W : World} {B : Nat} {ao : Option Addr} {cap : Nat} {Qs : List Pr} (h : Up W B ao cap Qs) : LibAt W ao Qs ∧ Qs.length ≤ cap := by
  obtain ⟨ao', cap', e', hk, _, hc⟩ := h.own.slice
  simp only [Value.slice.injEq] at e'
  obtain ⟨e1, _, e3⟩ := e'
  exact ⟨⟨by rw [e1]; exact hk, fun x hx => (h.ok x hx).ok⟩, by rw [e3]; exact hc⟩
theorem Up.same {W W' : World} {B : Nat} {ao : Option Addr} {cap : Nat} {Qs : List Pr} (h : Up W B ao cap Qs) (hs : ∀ g, B ≤ g → g < W.heap.size → W'.heap[g]? = W.heap[g]?) : Up W' B ao cap Qs :=
  ⟨h.own.same fun g hg => hs g (h.own.lt g hg).1 (h.own.lt g hg).2, fun x hx => (h.ok x hx).same fun g hg => hs g ((h.ok x hx).lt g hg).1 ((h.ok x hx).lt g hg).2⟩
theorem Up.kept {W W' : World} {B : Nat} {ao : Option Addr} {cap : Nat} {Qs : List Pr} (h : Up W B ao cap Qs) (hb : Below W.heap.size W W') : Up W' B ao cap Qs := h.same fun g _ hg => hb.block g hg
/-- its pieces lie apart -/
structure Aprt (ao : Option Addr) (Qs : List Pr) : Prop where
  apt : Apt Qs
  lib : ∀ a, ao = some a → ∀ i, i < Qs.length → cb (pd Qs i) ≠ some a.block
theorem resL_length {b : List Nat} {Ps : List Pr} (h : Ps.map core = resL b) : Ps.length ≤ 64 := by
  have e : Ps.length = (resL b).length := by rw [← h]; simp
  rw [e]
  unfold resL
  split
  · rename_i hh
    have := check_name hh.2
    simpa using this.1
  · simp
/-- Decode's answer -/
theorem RPost.opn {w W : World} {b : List Nat} {e : Ending} (h : RPost w b e W) : Below w.heap.size w W ∧ ∃ Qs ao cap, e = .returned (.tuple #[.slice ao Qs.length cap, .int .i64 (atR b), .int .i64 (errR b)]) ∧ Qs.map core = resL b ∧ Up W (w.heap.size + 2) ao cap Qs ∧ Aprt ao Qs := by
  obtain ⟨hb, h⟩ := h
  refine ⟨hb, ?_⟩
  have hnil : Aprt none [] := ⟨fun i j hi => absurd hi (by simp), fun a e => by cases e⟩
  rcases h with ⟨h0, he⟩ | ⟨h0, Ps, ao, cap, p, hc, hd, hcs⟩
  · refine ⟨[], none, 0, ?_, ?_, Up.nil _ _, hnil⟩
    · rw [he]; unfold atR errR; rw [if_neg (fun h => h0 h.1), if_neg h0]; rfl
    · unfold resL; rw [if_neg (fun h => h0 h.1)]; rfl
  · have hck := chkR_of hc
    rcases hcs with ⟨h1, he⟩ | ⟨h1, he⟩
    · rw [hck] at h1 he
      refine ⟨[], none, 0, ?_, ?_, Up.nil _ _, hnil⟩
      · rw [he]; unfold atR errR; rw [if_pos ⟨h0, h1⟩, if_pos h0]; rfl
      · unfold resL; rw [if_neg (fun h => h1 h.2)]; rfl
    · rw [hck] at h1
      refine ⟨Ps, ao, cap, ?_, ?_, ⟨hd.own, hd.ok⟩, Apt.of hd.pw, fun a ha i hi hg => ?_⟩
      · rw [he]; unfold atR errR; rw [if_neg (fun h => h.2 h1), if_pos h0, h1]
      · unfold resL; rw [if_pos ⟨h0, h1⟩]; exact hc
      · exact hd.ap _ (pd_mem hi) _ hg (by rw [ha]; rfl)
theorem RPostM.opn {w W : World} {b : List Nat} {e : Ending} (h : RPostM w b e W) : Below w.heap.size w W ∧ ∃ Qs ao cap, e = .returned (.tuple #[.slice ao Qs.length cap, .int .i64 (atR b), .int .i64 (errR b)]) ∧ Qs.map core = resL b ∧ Up W (w.heap.size + 1) ao cap Qs := by
  obtain ⟨hb, h⟩ := h
  refine ⟨hb, ?_⟩
  rcases h with ⟨h0, he⟩ | ⟨h0, Ps, ao, cap, hc, hd, hcs⟩
  · refine ⟨[], none, 0, ?_, ?_, Up.nil _ _⟩
    · rw [he]; unfold atR errR; rw [if_neg (fun h => h0 h.1), if_neg h0]; rfl
    · unfold resL; rw [if_neg (fun h => h0 h.1)]; rfl
  · have hck := chkR_of hc
    rcases hcs with ⟨h1, he⟩ | ⟨h1, he⟩
    · rw [hck] at h1 he
      refine ⟨[], none, 0, ?_, ?_, Up.nil _ _⟩
      · rw [he]; unfold atR errR; rw [if_pos ⟨h0, h1⟩, if_pos h0]; rfl
      · unfold resL; rw [if_neg (fun h => h1 h.2)]; rfl
    · rw [hck] at h1
      refine ⟨Ps, ao, cap, ?_, ?_, hd.1, hd.2⟩
      · rw [he]; unfold atR errR; rw [if_neg (fun h => h.2 h1), if_pos h0, h1]
      · unfold resL; rw [if_pos ⟨h0, h1⟩]; exact hc
end Go.Proofs.YtkjmeknaedapjaaDoor
