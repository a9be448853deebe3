/-
  Keys.
-/
import Derived.Test.YtghfofjpoeckkaaHPut2
import Derived.Deep.DeepAppendRoom
namespace Go.Proofs.Ytghfofjpoeckkaa
open Go.RowKit Go.Sort

def slLen : Value → Nat
  | .slice _ n _ => n
  | _ => 0
/-- an entry amid its line -/
theorem pt_at {p : Nat} : ∀ {es X Y : List En} {x : En}, pt p es = X ++ x :: Y → ∃ A C, es = A ++ x :: C ∧ pt p A = X ∧ pt p C = Y ∧ x.p = p := by
  intro es X Y x h
  obtain ⟨A, B, rfl, h1, h2⟩ := List.filter_eq_append_iff.1 h
  obtain ⟨B1, C, rfl, h3, h4, h5⟩ := List.filter_eq_cons_iff.1 h2
  refine ⟨A ++ B1, C, by simp, ?_, h5, by simpa using h4⟩
  rw [pt_append, show pt p A = X from h1, show pt p B1 = [] from List.filter_eq_nil_iff.2 h3, List.append_nil]
theorem DA.node {w : World} {D M L P : Nat} {hf : Value} {es : List En} (h : DA w D M L hf P es) {p : Int} {X Y : List En} {x : En} (hl : ptI P p es = X ++ x :: Y) :
    w.cell? ⟨x.b, 0, none⟩ = some (.string x.k) ∧ w.cell? ⟨x.b, 5, none⟩ = some (hp Y) := by
  unfold ptI at hl
  split at hl
  · obtain ⟨A, C, rfl, _, h2, h3⟩ := pt_at hl
    have hen := h.en A x C rfl
    rw [h3, h2] at hen
    refine ⟨?_, ?_⟩ <;> rw [World.cell?, hen] <;> rfl
  · simp at hl
/-- texts as cells -/
def sks (l : List K) : List Value := l.map Value.string
theorem sks_append (A B : List K) : sks (A ++ B) = sks A ++ sks B := by simp [sks]
theorem infoS : (Try.prog.info? 9).map (fun i => (i.zero, i.size, i.bytes)) = some (some (.string ⟨#[]⟩), 1, 16) := by kernel_rfl
theorem str_new (w : World) (x : K) : ∀ j u, ([.string x] : List Value)[j]? = some u → (w.alloc (.cells #[.string x] 9)).cell? ((⟨w.heap.size, 0, none⟩ : Addr).add j) = some u := by
  intro j u hu
  have hb : (w.alloc (.cells #[.string x] 9)).heap[w.heap.size]? = some (.cells #[.string x] 9 (0, 0)) := heap_alloc_new _ _ rfl
  rw [addr_add]
  match j, hu with
  | 0, hu => simp at hu; rw [← hu]; simp only [World.cell?, hb]; rfl
  | j + 1, hu => simp at hu
theorem make_strs0 (c : Nat) (hc : c * 16 ≤ 281474976710656) (u : World) : (Instr.makeSlice 31 (.int .i64 0) (.int .i64 (c : Int))).run Try.prog u = .ok (.slice (some ⟨u.heap.size, 0, none⟩) 0 c) (u.alloc (.cells (madeCells #[.string ⟨#[]⟩] c) 9)) := by
  obtain ⟨i0, hi, hz0, hz1, hz2⟩ := info_parts infoS
  have h := run_make (P := Try.prog) u 31 9 i0 (.string ⟨#[]⟩) Try.underlying31 hi hz0 .i64 .i64 (0 : Int) (c : Int) (by omega) (by omega) (by rw [hz2]; omega) (by omega)
  rw [hz1, Int.toNat_natCast, Nat.mul_one] at h
  exact h

set_option maxRecDepth 100000 in
set_option maxHeartbeats 1000000 in
theorem keys_any (w : World) (D M L P : Nat) (hf : Value) (es : List En) (p : Int) (h : DA w D M L hf P es) (hm : (ptI P p es).length * 16 ≤ 281474976710656) :
    Calls Try.prog 18 #[ptr D, .int .i64 p] w fun e w' => ∃ g, e = .returned (.slice (some ⟨g, 0, none⟩) (ptI P p es).length (ptI P p es).length) ∧ Hid (w'.ownsRow w.heap.size 9 1 (.slice (some ⟨g, 0, none⟩) (ptI P p es).length (ptI P p es).length) (ptI P p es).length (sks ((ptI P p es).map En.k))) ∧ Below w.heap.size w w' := by
  have HD : Hid (DA w D M L hf P es) := h
  clear h
  obtain ⟨l, hl⟩ : ∃ l, l = ptI P p es := ⟨_, rfl⟩
  rw [← hl] at hm ⊢
  obtain ⟨n, hn⟩ : ∃ n, n = l.length := ⟨_, rfl⟩
  rw [← hn] at hm ⊢
  go_enter Try.func18, Try.ntmps18
  go_wp2_with fail
  refine (line_any w D M L P hf es p HD.out).mono ?_
  rintro e w1 ⟨rfl, hb1⟩
  have HB1 : Hid (Below w.heap.size w w1) := hb1
  have HN : Hid (n = l.length) := hn
  rw [← hl, ← hn]
  have HLD : Hid (∀ W, Below w.heap.size w W → ∀ X x Y, l = X ++ x :: Y → W.cell? ⟨x.b, 0, none⟩ = some (.string x.k) ∧ W.cell? ⟨x.b, 5, none⟩ = some (hp Y)) := fun W hW X x Y hX => (HD.out.kept hW).node (hl.symm.trans hX)
  clear hb1 hn hl
  obtain ⟨v1, hv1⟩ := hp_ptr l
  obtain ⟨v2, hv2⟩ := lp_ptr l
  rw [hv1, hv2]
  have hmk := fun u => make_strs0 n hm u
  have HRow : Hid (((w1.alloc (.cells #[.pointer v1, .pointer v2, .int .i64 (n : Int)] TL)).alloc (.cells (madeCells #[.string ⟨#[]⟩] n) 9)).ownsRow w.heap.size 9 1 (.slice (some ⟨w1.heap.size + 1, 0, none⟩) 0 n) 0 (sks ((l.take 0).map En.k))) := by
    rw [Hid, List.take_zero]
    have := World.ownsRow_made (e := 9) (size := 1) (w1.alloc (.cells #[.pointer v1, .pointer v2, .int .i64 (n : Int)] TL)) (madeCells #[.string ⟨#[]⟩] n) n (base := w.heap.size) (by have := HB1.out.size; simp; omega) (by unfold maxLen; omega) (by simp [size_madeCells])
    rw [World.size_alloc] at this
    exact this
  have HBw : Hid (Below w.heap.size w ((w1.alloc (.cells #[.pointer v1, .pointer v2, .int .i64 (n : Int)] TL)).alloc (.cells (madeCells #[.string ⟨#[]⟩] n) 9))) := (HB1.out.alloc HB1.out.size _).alloc (by have := HB1.out.size; simp; omega) _
  have HV1 : Hid (.pointer v1 = hp (l.drop 0)) := by rw [Hid, List.drop_zero]; exact hv1.symm
  clear hv1 hv2
  go_wp2
  generalize (w1.alloc (.cells #[.pointer v1, .pointer v2, .int .i64 (n : Int)] TL)).alloc (.cells (madeCells #[.string ⟨#[]⟩] n) 9) = W2 at *
  generalize w1.heap.size + 1 = g at *
  go_loopw [6, 7] (fun s e wr => ∃ j : Nat, j ≤ n ∧ s = .slice (some ⟨g, 0, none⟩) j n ∧ e = hp (l.drop j) ∧ Hid (wr.ownsRow w.heap.size 9 1 (.slice (some ⟨g, 0, none⟩) j n) j (sks ((l.take j).map En.k))) ∧ Hid (Below w.heap.size w wr)) (fun s _ _ => n - slLen s)
  case atStart => exact ⟨0, Nat.zero_le _, rfl, HV1.out, HRow, HBw⟩
  case round =>
    obtain ⟨j, hj, rfl, rfl, HR, HW⟩ := hrel
    by_cases hlt : j < n
    · have hjl : j < l.length := by have := HN.out; omega
      have hdr : l.drop j = l[j] :: l.drop (j + 1) := List.drop_eq_getElem_cons hjl
      have htk : l = l.take j ++ l[j] :: l.drop (j + 1) := by rw [← hdr, List.take_append_drop]
      obtain ⟨a0, _⟩ := HLD.out wr HW.out _ _ _ htk
      rw [hdr, hp_cons]
      have HT : Hid ((l.take (j + 1)).map En.k = (l.take j).map En.k ++ [l[j].k]) := by rw [Hid, List.take_succ_eq_append_getElem hjl, List.map_append]; rfl
      have HLn : Hid (∀ W, Below w.heap.size w W → W.cell? ⟨l[j].b, 5, none⟩ = some (hp (l.drop (j + 1)))) := fun W hW => (HLD.out W hW _ _ _ htk).2
      obtain ⟨o5, ho5⟩ := hp_ptr (l.drop (j + 1))
      rw [ho5] at HLn
      have HO5 : Hid (.pointer o5 = hp (l.drop (j + 1))) := ho5.symm
      obtain ⟨i0, hi, hz0, hz1, hz2⟩ := info_parts infoS
      have HBa : Hid (Below w.heap.size w (wr.alloc (.cells #[.string l[j].k] 9))) := HW.out.alloc HW.out.size _
      have HRa : Hid ((wr.alloc (.cells #[.string l[j].k] 9)).ownsRow w.heap.size 9 1 (.slice (some ⟨g, 0, none⟩) j n) j (sks ((l.take j).map En.k))) := HR.out.alloc _
      generalize l[j] = x at *
      clear ho5 htk hdr
      go_wp2_with (at_builtin; refine wpList_append_own_spare _ rfl _ _ 31 rfl w.heap.size 9 i0 1 Try.underlying31 hi hz1 g j n _ rfl HRa.out ⟨wr.heap.size, 0, none⟩ 1 1 [.string x.k] rfl rfl (str_new _ _) (by simp [Value.oneCell']) (by omega) ?_; intro w5 ho5 hg5; have HR5 : Hid (w5.ownsRow w.heap.size 9 1 (.slice (some ⟨g, 0, none⟩) (j + 1) n) (j + 1) (sks ((l.take (j + 1)).map En.k))) := (by rw [Hid, HT.out, sks_append]; exact ho5); have HB5 : Hid (Below w.heap.size w w5) := HBa.out.trans (grown_below hg5 (fun q hq => by cases hq; exact (HRa.out.lt g rfl).1) HBa.out.size); have a5 := HLn.out w5 HB5.out; clear ho5 hg5)
      go_wp2
      go_roundw
      case rel => exact ⟨j + 1, by omega, rfl, HO5.out, HR5, HB5⟩
      case measure => simp [slLen]; omega
    · obtain rfl : j = n := by omega
      have hdr : l.drop j = [] := List.drop_eq_nil_iff.2 (by have := HN.out; omega)
      have htk : l.take j = l := List.take_of_length_le (by have := HN.out; omega)
      have HRf : Hid (wr.ownsRow w.heap.size 9 1 (.slice (some ⟨g, 0, none⟩) j j) j (sks (l.map En.k))) := by rw [Hid]; have := HR.out; rwa [htk] at this
      rw [hdr]
      simp only [hp]
      clear hdr htk HR
      go_wp2
      go_ret
      exact ⟨g, rfl, HRf, HW.out⟩
end Go.Proofs.Ytghfofjpoeckkaa
