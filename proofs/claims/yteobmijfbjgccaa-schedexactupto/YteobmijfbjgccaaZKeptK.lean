/-
  kept: the lists as the trials go.
-/
import Derived.Test.YteobmijfbjgccaaZKeptH
namespace Go.Proofs.Yteobmijfbjgccaa
open Go.RowKit Go.Sort

theorem addrZ (b off j : Nat) : (⟨b, off, none⟩ : Addr).add j = ⟨b, off + j, none⟩ := by unfold Addr.add; split <;> simp_all
theorem sl64Z (u : World) (B : Nat) : (Instr.sliceAt 70 (.pointer (some ⟨B, 0, none⟩)) none none none).run Try.prog u = .ok (.slice (some ⟨B, 0, none⟩) 64 64) u := by
  have hl : Try.prog.arrayLen 70 = 64 := by kernel_rfl
  have he : Try.prog.elem 70 = 3 := by kernel_rfl
  have h := run_sliceAt_array_all (P := Try.prog) u 70 ⟨B, 0, none⟩ (by rw [hl, he]; exact Try.underlying70)
  rw [h, hl, he]
  obtain ⟨i0, hi, hz0, hz1, hz2⟩ := info_parts infoZI
  simp [sizeOf, typeInfo, hi, slicedAt, addrZ]
/-- what has been stored so far -/
def Gd (ln : Nat → Nat) (vs : Nat → List Int) (i k : Nat) : Prop := (∀ j, (vs j).length = ln j) ∧ ∀ j m, m < ln j → (j < i ∨ (j = i ∧ m < k)) → (vs j)[m]? = some (-20 - (j : Int))
def K2 (N : Nat) (w W : World) (pb : Nat) (Cp : Array Value) (lio : Option Addr) (lic t : Nat) (ro : Nat → Option Addr) (rc ln : Nat → Nat) (i k : Nat) : Prop := ∃ vs, KL N W pb Cp lio lic t ro rc vs ∧ Gd ln vs i k ∧ RowKit.Below N w W
/-- the lists, and the array that is appended -/
structure K3 (N : Nat) (w W : World) (pb : Nat) (Cp : Array Value) (lio : Option Addr) (lic t : Nat) (ro : Nat → Option Addr) (rc : Nat → Nat) (vs : Nat → List Int) (mb : Nat) : Prop where
  kl : KL N W pb Cp lio lic t ro rc vs
  be : RowKit.Below N w W
  ma : W.heap[mb]? = some (.cells (i64s (List.replicate 64 0)).toArray 70 (0, 0))
  le : N ≤ w.heap.size
def K5 (N : Nat) (w W : World) (pb : Nat) (Cp : Array Value) (lio : Option Addr) (lic t : Nat) (ro : Nat → Option Addr) (rc : Nat → Nat) (vs : Nat → List Int) (mb i : Nat) (go : Option Addr) (gn gc k : Nat) : Prop := GK N W pb Cp lio lic t ro rc vs i go gn gc (List.replicate k 1) ∧ K3 N w W pb Cp lio lic t ro rc vs mb ∧ gn = (vs i).length + k ∧ i < t
section
variable {N : Nat} {w W W' : World} {pb : Nat} {Cp : Array Value} {lio : Option Addr} {lic t : Nat} {ro : Nat → Option Addr} {rc ln : Nat → Nat} {vs : Nat → List Int} {mb i k : Nat} {go : Option Addr} {gn gc : Nat} {ys : List Int}
theorem K2.cell (h : K2 N w W pb Cp lio lic t ro rc ln i k) : W.cell? ⟨pb, 4, none⟩ = some (.slice lio t lic) := by
  obtain ⟨vs, h1, _⟩ := h
  exact h1.cell
theorem K2.item (h : K2 N w W pb Cp lio lic t ro rc ln i k) {j : Nat} (hj : j < t) : ∃ b off, lio = some ⟨b, off, none⟩ ∧ W.cell? ⟨b, off + j, none⟩ = some (.slice (ro j) (ln j) (rc j)) := by
  obtain ⟨vs, h1, h2, _⟩ := h
  rw [← h2.1 j]
  exact h1.item hj
theorem K2.store (h : K2 N w W pb Cp lio lic t ro rc ln i k) (hN : N ≤ w.heap.size) (hi : i < t) (hk : k < ln i) : ∃ g, ro i = some ⟨g, 0, none⟩ ∧ (∃ y, W.cell? ⟨g, k, none⟩ = some y) ∧ W.frozen? ⟨g, k, none⟩ = false ∧ K2 N w (W.setCell ⟨g, k, none⟩ (.int .i64 (-20 - (i : Int)))) pb Cp lio lic t ro rc ln i (k + 1) := by
  obtain ⟨vs, h1, ⟨hl, hv⟩, hb⟩ := h
  have hr := (h1.rw i hi).1
  have hk' : k < (vs i).length := by rw [hl]; exact hk
  obtain ⟨g, hg⟩ : ∃ g, ro i = some ⟨g, 0, none⟩ := by
    obtain ⟨_, ⟨_, h0⟩ | ⟨g, _, _, e, _⟩⟩ := hr
    · omega
    · simp only [Value.slice.injEq] at e
      exact ⟨g, e.1⟩
  rw [hg] at hr
  obtain ⟨h3, h4, h5⟩ := hr.setZ hk' (.int .i64 (-20 - (i : Int)))
  have hf : FrZ (fun j => ∃ g, ro i = some g ∧ g.block = j) W (W.setCell ⟨g, k, none⟩ (.int .i64 (-20 - (i : Int)))) := (FrZ.refl _ _).set ⟨g, k, none⟩ _ (.inr ⟨_, hg, rfl⟩)
  have hlen : ((vs i).set k (-20 - (i : Int))).length = (vs i).length := by simp
  refine ⟨g, hg, h5, h4, updZ vs i ((vs i).set k (-20 - (i : Int))), h1.upd hi hf ?_ hlen, ⟨fun j => ?_, fun j m hm hc => ?_⟩, hb.trans (hf.below (Nat.le_trans hN hb.size) (fun j hj => by obtain ⟨g', e1, rfl⟩ := hj; exact ((h1.rw i hi).1.lt g' e1).1))⟩
  · rw [hlen, hg]
    rw [i64s, List.map_set]
    exact h3
  · by_cases e : j = i
    · subst e; rw [updZ_same, hlen, hl]
    · rw [updZ_ne e, hl]
  · by_cases e : j = i
    · subst e
      rw [updZ_same]
      by_cases e2 : m = k
      · subst e2; simp [hk']
      · rw [List.getElem?_set_ne (fun e3 => e2 e3.symm)]
        exact hv j m hm (.inr ⟨rfl, by omega⟩)
    · rw [updZ_ne e]
      exact hv j m hm (.inl (by omega))
theorem K2.next (h : K2 N w W pb Cp lio lic t ro rc ln i (ln i)) : K2 N w W pb Cp lio lic t ro rc ln (i + 1) 0 := by
  obtain ⟨vs, h1, ⟨hl, hv⟩, hb⟩ := h
  refine ⟨vs, h1, ⟨hl, fun j m hm hc => hv j m hm ?_⟩, hb⟩
  by_cases e : j = i
  · subst e; exact .inr ⟨rfl, hm⟩
  · exact .inl (by omega)
theorem GK.keep (h : GK N W pb Cp lio lic t ro rc vs i go gn gc ys) (hb : RowKit.Below W.heap.size W W') : GK N W' pb Cp lio lic t ro rc vs i go gn gc ys := ⟨h.kl.kept hb, h.gr.kept (fun g hg => hb.block _ (h.gr.lt g hg).2), h.wh⟩
theorem K3.keep (h : K3 N w W pb Cp lio lic t ro rc vs mb) (hb : RowKit.Below W.heap.size W W') : K3 N w W' pb Cp lio lic t ro rc vs mb := ⟨h.kl.kept hb, h.be.trans (hb.mono (Nat.le_trans h.le h.be.size)), (hb.block _ (blk_ltZ h.ma)).trans h.ma, h.le⟩
theorem K3.start (h : KL N W pb Cp lio lic t ro rc vs) (hb : RowKit.Below N w W) (hN : N ≤ w.heap.size) : K3 N w (W.alloc (.cells (i64s (List.replicate 64 0)).toArray 70)) pb Cp lio lic t ro rc vs W.heap.size := by
  have hA : RowKit.Below W.heap.size W (W.alloc (.cells (i64s (List.replicate 64 0)).toArray 70)) := (Below.refl _ _).alloc (Nat.le_refl _) _
  exact ⟨h.kept hA, hb.trans (hA.mono (Nat.le_trans hN hb.size)), heap_alloc_new _ _ rfl, hN⟩
theorem K3.app (h : K3 N w W pb Cp lio lic t ro rc vs mb) (hg : GK N W pb Cp lio lic t ro rc vs i go gn gc ys) (hi : i < t) (a : Addr) (m cc : Nat) (zs : List Int) (hl : zs.length = m) (hz : ∀ j u, (i64s zs)[j]? = some u → W.cell? (a.add j) = some u) (hb : gn + m ≤ 100000000) (ty : TypeId) :
    ∃ v' w', (Builtin.append_ #[23, 23] ty #[.slice go gn gc, .slice (some a) m cc]).run Try.prog W = .ok v' w' ∧ ∃ go' gc', v' = .slice go' (gn + m) gc' ∧ GK N w' pb Cp lio lic t ro rc vs i go' (gn + m) gc' (ys ++ zs) ∧ K3 N w w' pb Cp lio lic t ro rc vs mb := by
  obtain ⟨v', w', hr, go', gc', rfl, hid⟩ := hg.app hi (Nat.le_trans h.le h.be.size) a m cc zs hl hz hb ty
  exact ⟨_, w', hr, go', gc', rfl, hid.out.1, ⟨hid.out.1.kl, h.be.trans hid.out.2.1, hid.out.2.2 _ _ h.ma, h.le⟩⟩
theorem K3.gk (h : K3 N w W pb Cp lio lic t ro rc vs mb) (hi : i < t) : GK N W pb Cp lio lic t ro rc vs i (ro i) (vs i).length (rc i) [] := ⟨h.kl, by rw [List.append_nil]; exact (h.kl.rw i hi).1, .inl ⟨rfl, rfl⟩⟩
theorem K3.five (h : K3 N w W pb Cp lio lic t ro rc vs mb) (hi : i < t) : K5 N w W pb Cp lio lic t ro rc vs mb i (ro i) (vs i).length (rc i) 0 := ⟨h.gk hi, h, rfl, hi⟩
theorem K5.more (h : K5 N w W pb Cp lio lic t ro rc vs mb i go gn gc k) (hk : k < 24) (ty : TypeId) :
    ∃ v' w', (Builtin.append_ #[23, 23] ty #[.slice go gn gc, .slice (some ⟨W.heap.size, 0, none⟩) 1 1]).run Try.prog (W.alloc (.cells #[.int .i64 1] 3)) = .ok v' w' ∧ ∃ go' gc', v' = .slice go' (gn + 1) gc' ∧ Hid (K5 N w w' pb Cp lio lic t ro rc vs mb i go' (gn + 1) gc' (k + 1)) := by
  obtain ⟨hg, h3, hn, hi⟩ := h
  have hA : RowKit.Below W.heap.size W (W.alloc (.cells #[.int .i64 1] 3)) := (Below.refl _ _).alloc (Nat.le_refl _) _
  have hx := (h3.kl.rw i hi).2
  have hnew : (W.alloc (.cells #[.int .i64 1] 3)).heap[W.heap.size]? = some (.cells #[.int .i64 1] 3 (0, 0)) := heap_alloc_new _ _ rfl
  obtain ⟨v', w', hr, go', gc', rfl, h5, h6⟩ := (h3.keep hA).app (hg.keep hA) hi ⟨W.heap.size, 0, none⟩ 1 1 [1] rfl (fun j u hu => by
    rw [addrZ, World.cell?, hnew, Nat.zero_add]
    simpa [i64s] using hu) (by omega) ty
  refine ⟨_, w', hr, go', gc', rfl, ?_, h6, by omega, hi⟩
  rw [← List.replicate_append_replicate]
  exact h5
theorem K3.last (h : K3 N w W pb Cp lio lic t ro rc vs mb) (hi : i < t) (n : Nat) (hn : n = (vs i).length) (ty : TypeId) :
    ∃ v' w', (Builtin.append_ #[23, 23] ty #[.slice (ro i) n (rc i), .slice (some ⟨mb, 0, none⟩) 64 64]).run Try.prog W.drew = .ok v' w' ∧ ∃ go' gc', v' = .slice go' (n + 64) gc' ∧ Hid (K3 N w w' pb Cp lio lic t ro rc vs mb) := by
  subst hn
  have hA : RowKit.Below W.heap.size W W.drew := below_drewN (Below.refl _ _) 1
  have hd := h.keep hA
  have hx := (h.kl.rw i hi).2
  obtain ⟨v', w', hr, go', gc', rfl, h5, h6⟩ := hd.app (hd.gk hi) hi ⟨mb, 0, none⟩ 64 64 (List.replicate 64 0) (by simp) (fun j u hu => by
    rw [addrZ, World.cell?, hd.ma, Nat.zero_add]
    simpa using hu) (by omega) ty
  exact ⟨_, w', hr, go', gc', rfl, h6⟩
end
end Go.Proofs.Yteobmijfbjgccaa
