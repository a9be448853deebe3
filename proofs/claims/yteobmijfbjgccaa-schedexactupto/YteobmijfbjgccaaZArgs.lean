/-
  WHAT THE LAWS ARE GIVEN: within, parts, total.
-/
import Derived.Test.YteobmijfbjgccaaZPlay
namespace Go.Proofs.Yteobmijfbjgccaa
open Go.RowKit Go.Sort

/-- a Make: its steps, its list -/
structure Mk where
  s : Int
  a : Option Addr
  c : Nat
  zs : List Int
def mkc (x : Mk) : List Value := [.int .i64 x.s, .slice x.a x.zs.length x.c]
theorem mkc_at (l : List Mk) (i m : Nat) (hi : i < l.length) (hm : m < 2) : (l.flatMap mkc)[i * 2 + m]? = (mkc l[i])[m]? := by
  induction l generalizing i with
  | nil => simp at hi
  | cons x l ih =>
    rw [List.flatMap_cons]
    cases i with
    | zero =>
      rw [List.getElem?_append_left (by simp [mkc]; omega)]
      simp
    | succ i =>
      rw [List.getElem?_append_right (by simp [mkc]; omega)]
      simp only [mkc, List.length_cons, List.length_nil, List.getElem_cons_succ]
      rw [show (i + 1) * 2 + m - 2 = i * 2 + m by omega]
      exact ih i (by simpa using hi)
/-- a list of them -/
structure MksAt (w : World) (ao : Option Addr) (L : List Mk) : Prop where
  row : WAt w ao (L.flatMap mkc)
  sub : ∀ x ∈ L, WAt w x.a (i64s x.zs) ∧ x.zs.length ≤ 20000000000000
theorem MksAt.below {w w' : World} {ao : Option Addr} {L : List Mk} (h : MksAt w ao L) (hb : RowKit.Below w.heap.size w w') : MksAt w' ao L := ⟨h.row.below hb, fun x hx => ⟨(h.sub x hx).1.below hb, (h.sub x hx).2⟩⟩
theorem MksAt.get {w : World} {ao : Option Addr} {L : List Mk} (h : MksAt w ao L) (i : Nat) (hi : i < L.length) : ∃ b off, ao = some ⟨b, off, none⟩ ∧ w.cell? ⟨b, off + i * 2, none⟩ = some (.int .i64 L[i].s) ∧ w.cell? ⟨b, off + i * 2 + 1, none⟩ = some (.slice L[i].a L[i].zs.length L[i].c) := by
  obtain ⟨b, off, h1, h2⟩ := h.row _ _ (show (L.flatMap mkc)[i * 2 + 0]? = some (.int .i64 L[i].s) by rw [mkc_at L i 0 hi (by omega)]; rfl)
  obtain ⟨b', off', h3, h4⟩ := h.row _ _ (show (L.flatMap mkc)[i * 2 + 1]? = some (.slice L[i].a L[i].zs.length L[i].c) by rw [mkc_at L i 1 hi (by omega)]; rfl)
  rw [h1] at h3
  cases h3
  exact ⟨b, off, h1, h2, by rw [Nat.add_assoc]; exact h4⟩
/-- an Op: its kind, its number, its picks -/
structure Oq where
  kd : Int
  n : Int
  a : Option Addr
  c : Nat
  ps : List Int
def oqc (x : Oq) : List Value := [.int .i64 x.kd, .int .i64 x.n, .slice x.a x.ps.length x.c]
theorem oqc_at (l : List Oq) (i m : Nat) (hi : i < l.length) (hm : m < 3) : (l.flatMap oqc)[i * 3 + m]? = (oqc l[i])[m]? := by
  induction l generalizing i with
  | nil => simp at hi
  | cons x l ih =>
    rw [List.flatMap_cons]
    cases i with
    | zero =>
      rw [List.getElem?_append_left (by simp [oqc]; omega)]
      simp
    | succ i =>
      rw [List.getElem?_append_right (by simp [oqc]; omega)]
      simp only [oqc, List.length_cons, List.length_nil, List.getElem_cons_succ]
      rw [show (i + 1) * 3 + m - 3 = i * 3 + m by omega]
      exact ih i (by simpa using hi)
structure OqsAt (w : World) (ao : Option Addr) (L : List Oq) : Prop where
  row : WAt w ao (L.flatMap oqc)
  sub : ∀ x ∈ L, WAt w x.a (i64s x.ps) ∧ x.ps.length ≤ 20000000000000 ∧ (x.a = none → x.c = 0)
theorem OqsAt.nil (w : World) (ao : Option Addr) : OqsAt w ao [] := ⟨fun j u hu => by simp at hu, by simp⟩
theorem OqsAt.below {w w' : World} {ao : Option Addr} {L : List Oq} (h : OqsAt w ao L) (hb : RowKit.Below w.heap.size w w') : OqsAt w' ao L := ⟨h.row.below hb, fun x hx => ⟨(h.sub x hx).1.below hb, (h.sub x hx).2⟩⟩
theorem OqsAt.get {w : World} {ao : Option Addr} {L : List Oq} (h : OqsAt w ao L) (i : Nat) (hi : i < L.length) : ∃ b off, ao = some ⟨b, off, none⟩ ∧ w.cell? ⟨b, off + i * 3, none⟩ = some (.int .i64 L[i].kd) ∧ w.cell? ⟨b, off + i * 3 + 1, none⟩ = some (.int .i64 L[i].n) ∧ w.cell? ⟨b, off + i * 3 + 2, none⟩ = some (.slice L[i].a L[i].ps.length L[i].c) := by
  obtain ⟨b, off, h1, h2⟩ := h.row _ _ (show (L.flatMap oqc)[i * 3 + 0]? = some (.int .i64 L[i].kd) by rw [oqc_at L i 0 hi (by omega)]; rfl)
  obtain ⟨b', off', h3, h4⟩ := h.row _ _ (show (L.flatMap oqc)[i * 3 + 1]? = some (.int .i64 L[i].n) by rw [oqc_at L i 1 hi (by omega)]; rfl)
  obtain ⟨b'', off'', h5, h6⟩ := h.row _ _ (show (L.flatMap oqc)[i * 3 + 2]? = some (.slice L[i].a L[i].ps.length L[i].c) by rw [oqc_at L i 2 hi (by omega)]; rfl)
  rw [h1] at h3 h5
  cases h3
  cases h5
  exact ⟨b, off, h1, h2, by rw [Nat.add_assoc]; exact h4, by rw [Nat.add_assoc]; exact h6⟩
/-- a number brought into 0 .. m - 1 -/
def wiZ (x : Int) (m : Nat) : Int := if m = 0 then 0 else x % (m : Int)
theorem wiZ_range {x : Int} {m : Nat} (h : 0 < m) : 0 ≤ wiZ x m ∧ wiZ x m < (m : Int) := by
  unfold wiZ
  rw [if_neg (by omega)]
  exact ⟨Int.emod_nonneg _ (by omega), Int.emod_lt_of_pos _ (by omega)⟩
set_option maxHeartbeats 1000000 in
theorem within_any (w : World) (x : Int) (m : Nat) (hm : m ≤ 1000000000000000) : Calls Try.prog 24 #[.int .i64 x, .int .i64 (m : Int)] w fun e w' => e = .returned (.int .i64 (wiZ x m)) ∧ w' = w := by
  by_cases h0 : m = 0
  · subst h0
    simp only [show ((0 : Nat) : Int) = 0 from rfl]
    go_enter Try.func24, Try.ntmps24
    go_wp2
    go_ret
    exact ⟨rfl, rfl⟩
  · have h1 : (m : Int) ≠ 0 := by omega
    have hm1 : ¬ (m : Int) < 1 := by omega
    have h2 : -(m : Int) < x.tmod m ∧ x.tmod m < m := ⟨by have := Int.tmod_lt_of_pos (-x) (b := (m : Int)) (by omega); rw [Int.neg_tmod] at this; omega, Int.tmod_lt_of_pos x (by omega)⟩
    have HW : Hid (wiZ x m = x % (m : Int)) := by show _ = _; unfold wiZ; rw [if_neg h0]
    have h3 : x % (m : Int) = if x.tmod m < 0 then x.tmod m + m else x.tmod m := by
      rw [Int.tmod_def] at *
      have e1 := Int.emod_nonneg x h1
      have e2 := Int.emod_lt_of_pos x (b := (m : Int)) (by omega)
      have e3 : (x - (m : Int) * x.tdiv m) % (m : Int) = x % (m : Int) := by
        rw [show x - (m : Int) * x.tdiv m = x + m * (-(x.tdiv m)) by rw [Int.mul_neg]; omega, Int.add_mul_emod_self_left]
      generalize x - (m : Int) * x.tdiv m = y at *
      rw [← e3]
      split
      · rw [← Int.add_emod_right, Int.emod_eq_of_lt (by omega) (by omega)]
      · rw [Int.emod_eq_of_lt (by omega) (by omega)]
    have h4 : IntKind.i64.wrap (x.tmod m) = x.tmod m := by generalize x.tmod m = y at *; rw [IntKind.wrap_i64]; omega
    by_cases hn : x.tmod m < 0
    · have h5 : IntKind.i64.wrap (x.tmod m + m) = x.tmod m + m := by generalize x.tmod m = y at *; rw [IntKind.wrap_i64]; omega
      have HR : Hid (wiZ x m = x.tmod m + m) := by show _ = _; rw [HW.out, h3, if_pos hn]
      clear h3 HW
      go_enter Try.func24, Try.ntmps24
      go_wp2
      go_ret
      exact ⟨by rw [HR.out]; rfl, rfl⟩
    · have HR : Hid (wiZ x m = x.tmod m) := by show _ = _; rw [HW.out, h3, if_neg hn]
      clear h3 HW
      go_enter Try.func24, Try.ntmps24
      go_wp2
      go_ret
      exact ⟨by rw [HR.out]; rfl, rfl⟩
/-- how many parts -/
def ptsM (L : List Mk) : Nat := (L.map (fun x => x.zs.length + 1)).sum
def ptsO (L : List Oq) : Nat := (L.map (fun x => x.ps.length + 1)).sum
theorem ptsM_take {L : List Mk} {i : Nat} (hi : i < L.length) : ptsM (L.take (i + 1)) = ptsM (L.take i) + (L[i].zs.length + 1) := by
  unfold ptsM
  rw [List.take_add_one, List.getElem?_eq_getElem hi]
  simp only [Option.toList_some, List.map_append, List.sum_append, List.map_cons, List.map_nil, List.sum_cons, List.sum_nil, Nat.add_zero]
theorem ptsO_take {L : List Oq} {i : Nat} (hi : i < L.length) : ptsO (L.take (i + 1)) = ptsO (L.take i) + (L[i].ps.length + 1) := by
  unfold ptsO
  rw [List.take_add_one, List.getElem?_eq_getElem hi]
  simp only [Option.toList_some, List.map_append, List.sum_append, List.map_cons, List.map_nil, List.sum_cons, List.sum_nil, Nat.add_zero]
theorem ptsM_len (L : List Mk) : L.length ≤ ptsM L := by
  induction L with
  | nil => simp [ptsM]
  | cons x L ih => simp [ptsM] at *; omega
theorem ptsM_mem {L : List Mk} {x : Mk} (h : x ∈ L) : x.zs.length + 1 ≤ ptsM L := by
  induction L with
  | nil => simp at h
  | cons y L ih =>
    rcases List.mem_cons.1 h with rfl | h
    · simp [ptsM]
    · have := ih h; simp [ptsM] at *; omega
theorem ptsO_len (L : List Oq) : L.length ≤ ptsO L := by
  induction L with
  | nil => simp [ptsO]
  | cons x L ih => simp [ptsO] at *; omega
theorem ptsO_mem {L : List Oq} {x : Oq} (h : x ∈ L) : x.ps.length + 1 ≤ ptsO L := by
  induction L with
  | nil => simp at h
  | cons y L ih =>
    rcases List.mem_cons.1 h with rfl | h
    · simp [ptsO]
    · have := ih h; simp [ptsO] at *; omega
def PtsP (w : World) (L : List Mk) (O : List Oq) (e : Ending) (w' : World) : Prop := ∃ r : Int, e = .returned (.int .i64 r) ∧ w' = w ∧ (¬ r < 0 → ptsM L + ptsO O ≤ 100000)
set_option maxHeartbeats 2000000 in
theorem parts_any (w : World) (ao oo : Option Addr) (n m ca co : Nat) (L : List Mk) (O : List Oq) (h : MksAt w ao L) (ho : OqsAt w oo O) (hn : n = L.length) (hm : m = O.length) (hb : n ≤ 20000000000000) (hbm : m ≤ 20000000000000) :
    Calls Try.prog 9 #[.slice ao n ca, .slice oo m co] w fun e w' => PtsP w L O e w' := by
  have HL := hidW h
  have HO := hidW ho
  have HN := hidW hn
  have HM := hidW hm
  clear h ho hn hm
  go_enter Try.func9, Try.ntmps9
  go_wp2_with fail
  go_loopw [5, 6] (fun x y wr => ∃ (i : Nat) (r : Int), i ≤ n ∧ y = .int .i64 (i : Int) ∧ x = .int .i64 r ∧ Hid (r = 100000 - (ptsM (L.take i) : Int)) ∧ -100000000000000 ≤ r ∧ r ≤ 100000 ∧ wr = w) (fun _ y _ => n - (intOf y).toNat)
  case atStart => exact ⟨0, 100000, Nat.zero_le _, rfl, rfl, by rfl, by omega, by omega, rfl⟩
  case round =>
    obtain ⟨i, r, hi, rfl, rfl, HR, hr1, hr2, hwr⟩ := hrel
    subst hwr
    by_cases hlt : i < n ∧ 0 ≤ r
    · obtain ⟨hlt, hr0⟩ := hlt
      have hil : i < L.length := by have := HN.out; omega
      obtain ⟨b, off, rfl, _, e1⟩ := HL.out.get i hil
      have hzl := (HL.out.sub L[i] (List.getElem_mem hil)).2
      have HS := hidW (ptsM_take hil)
      generalize L[i] = x at *
      obtain ⟨xs, xa, xc, xz⟩ := x
      simp only at e1 hzl
      obtain ⟨zl, hz⟩ : ∃ zl, zl = xz.length := ⟨_, rfl⟩
      rw [← hz] at e1 hzl
      have HR2 : Hid (r - 1 - (zl : Int) = 100000 - (ptsM (L.take (i + 1)) : Int)) := by show _ = _; rw [HS.out, hz]; have := HR.out; simp only; omega
      clear hz HS
      go_wp2_with fail
      go_roundw
      case rel => exact ⟨i + 1, r - 1 - (zl : Int), by omega, by go_num, rfl, HR2, by omega, by omega, trivial⟩
      case measure => simp [intOf]; omega
    · have HE : Hid (¬ r < 0 → r = 100000 - (ptsM L : Int)) := fun h0 => by
        have hi' : i = n := by omega
        have := HR.out
        rw [hi', HN.out, List.take_length] at this
        exact this
      obtain ⟨W1, hW1⟩ : ∃ W1, W1 = wr := ⟨_, rfl⟩
      have hcs : ¬ i < n ∨ (i < n ∧ r < 0) := by omega
      rcases hcs with hcs | ⟨hcs, hcs2⟩
      · go_wp2_with fail
        go_loopw [5, 7] (fun x y wq => ∃ (j : Nat) (r2 : Int), j ≤ m ∧ y = .int .i64 (j : Int) ∧ x = .int .i64 r2 ∧ Hid (r2 = r - (ptsO (O.take j) : Int)) ∧ -300000000000000 ≤ r2 ∧ r2 ≤ r ∧ (r < 0 → r2 = r) ∧ wq = wr) (fun _ y _ => m - (intOf y).toNat)
        case atStart => exact ⟨0, r, Nat.zero_le _, rfl, rfl, by show r = r - _; simp [ptsO], by omega, by omega, fun _ => rfl, rfl⟩
        case round =>
          obtain ⟨j, r2, hj, rfl, rfl, HR2, hr3, hr4, hr5, hwr2⟩ := hrel
          subst hwr2
          by_cases hlt2 : j < m ∧ 0 ≤ r2
          · obtain ⟨hlt2, hr0⟩ := hlt2
            have hjl : j < O.length := by have := HM.out; omega
            obtain ⟨b, off, rfl, _, _, e1⟩ := HO.out.get j hjl
            have hzl := (HO.out.sub O[j] (List.getElem_mem hjl)).2.1
            have HS := hidW (ptsO_take hjl)
            generalize O[j] = x at *
            obtain ⟨xk, xn, xa, xc, xz⟩ := x
            simp only at e1 hzl
            obtain ⟨zl, hz⟩ : ∃ zl, zl = xz.length := ⟨_, rfl⟩
            rw [← hz] at e1 hzl
            have HR3 : Hid (r2 - 1 - (zl : Int) = r - (ptsO (O.take (j + 1)) : Int)) := by show _ = _; rw [HS.out, hz]; have := HR2.out; simp only; omega
            clear hz HS
            go_wp2_with fail
            go_roundw
            case rel => exact ⟨j + 1, r2 - 1 - (zl : Int), by omega, by go_num, rfl, HR3, by omega, by omega, fun h => by omega, trivial⟩
            case measure => simp [intOf]; omega
          · have HP : Hid (PtsP W1 L O (.returned (.int .i64 r2)) W1) := by
              refine ⟨r2, rfl, rfl, fun h0 => ?_⟩
              have hj' : j = m := by omega
              have h1 := HR2.out
              rw [hj', HM.out, List.take_length] at h1
              have h2 := HE.out (by omega)
              omega
            have hcs3 : ¬ j < m ∨ (j < m ∧ r2 < 0) := by omega
            subst hW1
            rcases hcs3 with hcs3 | ⟨hcs3, hcs4⟩ <;>
            · go_wp2
              go_ret
              exact HP.out
      · go_wp2_with fail
        go_loopw [5, 7] (fun x y wq => ∃ (j : Nat) (r2 : Int), j ≤ m ∧ y = .int .i64 (j : Int) ∧ x = .int .i64 r2 ∧ Hid (r2 = r - (ptsO (O.take j) : Int)) ∧ -300000000000000 ≤ r2 ∧ r2 ≤ r ∧ (r < 0 → r2 = r) ∧ wq = wr) (fun _ y _ => m - (intOf y).toNat)
        case atStart => exact ⟨0, r, Nat.zero_le _, rfl, rfl, by show r = r - _; simp [ptsO], by omega, by omega, fun _ => rfl, rfl⟩
        case round =>
          obtain ⟨j, r2, hj, rfl, rfl, HR2, hr3, hr4, hr5, hwr2⟩ := hrel
          subst hwr2
          by_cases hlt2 : j < m ∧ 0 ≤ r2
          · obtain ⟨hlt2, hr0⟩ := hlt2
            exfalso; omega
          · have HP : Hid (PtsP W1 L O (.returned (.int .i64 r2)) W1) := by
              refine ⟨r2, rfl, rfl, fun h0 => ?_⟩
              have hj' : j = m := by omega
              have h1 := HR2.out
              rw [hj', HM.out, List.take_length] at h1
              have h2 := HE.out (by omega)
              omega
            have hcs3 : ¬ j < m ∨ (j < m ∧ r2 < 0) := by omega
            subst hW1
            rcases hcs3 with hcs3 | ⟨hcs3, hcs4⟩ <;>
            · go_wp2
              go_ret
              exact HP.out
/-- all steps -/
def ttM (L : List Mk) : Nat := (L.map (fun x => limZ x.s)).sum
theorem ttM_take {L : List Mk} {i : Nat} (hi : i < L.length) : ttM (L.take (i + 1)) = ttM (L.take i) + limZ L[i].s := by
  unfold ttM
  rw [List.take_add_one, List.getElem?_eq_getElem hi]
  simp only [Option.toList_some, List.map_append, List.sum_append, List.map_cons, List.map_nil, List.sum_cons, List.sum_nil, Nat.add_zero]
theorem ttM_le (L : List Mk) : ttM L ≤ L.length * 65536 := by
  induction L with
  | nil => simp [ttM]
  | cons x L ih => have := limZ_le x.s; simp [ttM] at *; omega
set_option maxHeartbeats 2000000 in
theorem total_any (w : World) (ao : Option Addr) (n ca : Nat) (L : List Mk) (h : MksAt w ao L) (hn : n = L.length) (hb : n ≤ 1000000) :
    Calls Try.prog 16 #[.slice ao n ca] w fun e w' => e = .returned (.int .i64 (ttM L : Int)) ∧ w' = w := by
  have HL := hidW h
  have HN := hidW hn
  clear h hn
  go_enter Try.func16, Try.ntmps16
  go_wp2_with fail
  go_loopw [3, 4] (fun x y wr => ∃ (i t : Nat), i ≤ n ∧ y = .int .i64 (i : Int) ∧ x = .int .i64 (t : Int) ∧ Hid (t = ttM (L.take i)) ∧ t ≤ i * 65536 ∧ wr = w) (fun _ y _ => n - (intOf y).toNat)
  case atStart => exact ⟨0, 0, Nat.zero_le _, rfl, rfl, by rfl, by omega, rfl⟩
  case round =>
    obtain ⟨i, t, hi, rfl, rfl, HT, ht, hwr⟩ := hrel
    subst hwr
    by_cases hlt : i < n
    · have hil : i < L.length := by have := HN.out; omega
      obtain ⟨b, off, rfl, e1, _⟩ := HL.out.get i hil
      have HS := hidW (ttM_take hil)
      have hlm := limZ_le L[i].s
      have HT2 : Hid (t + limZ L[i].s = ttM (L.take (i + 1))) := by show _ = _; rw [HS.out, HT.out]
      have HI := hidW (limZ_int L[i].s)
      generalize L[i].s = s at *
      generalize limZ s = l at *
      by_cases h1 : 65536 < s
      · have hl : l = 65536 := by have := HI.out; omega
        subst hl
        go_wp2
        go_roundw
        case rel => exact ⟨i + 1, t + 65536, by omega, by go_num, by rw [show ((t + 65536 : Nat) : Int) = (t : Int) + 65536 by omega], HT2, by omega, trivial⟩
        case measure => simp [intOf]; omega
      · by_cases h2 : 0 < s
        · have hl : (l : Int) = s := by have := HI.out; omega
          have hl2 : ((t + l : Nat) : Int) = t + s := by omega
          replace hl := hidW hl
          go_wp2
          go_roundw
          case rel => exact ⟨i + 1, t + l, by omega, by go_num, by rw [hl2], HT2, by omega, trivial⟩
          case measure => simp [intOf]; omega
        · have hl : l = 0 := by have := HI.out; omega
          subst hl
          clear hlm
          go_wp2
          go_roundw
          case rel => exact ⟨i + 1, t, by omega, by go_num, rfl, HT2, Nat.le_trans ht (Nat.mul_le_mul_right _ (by omega)), trivial⟩
          case measure => simp [intOf]; omega
    · obtain rfl : i = n := by omega
      have HT2 : Hid (t = ttM L) := by have := HT.out; rw [HN.out, List.take_length] at this; exact this
      go_wp2
      go_ret
      exact ⟨by rw [← HT2.out]; rfl, rfl⟩
end Go.Proofs.Yteobmijfbjgccaa
