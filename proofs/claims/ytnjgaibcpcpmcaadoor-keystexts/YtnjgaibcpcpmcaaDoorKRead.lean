/-
  THE WALKS OF readTable, readRow, Parse.
-/
import Derived.Test.YtnjgaibcpcpmcaaDoorKParse
namespace Go.Proofs.YtnjgaibcpcpmcaaDoor
open Go.RowKit Go.Sort Go.Shelf

theorem rest_eq (l : List UInt8) (f g : Nat) : rest l f g = if (digs l g).2 = 0 then (if (Dec.num1 ((l.take (digs l g).1).drop f)).2 = true then ((Dec.num1 ((l.take (digs l g).1).drop f)).1, (digs l g).1, 0) else (0, f, 41)) else (0, (digs l g).1, (digs l g).2) := rfl
theorem extract_list (s : ByteArray) (f d : Nat) : (s.extract f d).data.toList = (s.data.toList.take d).drop f := by
  rw [ByteArray.data_extract, Array.toList_extract, List.drop_take, List.extract_eq_take_drop]
theorem extract_size (s : ByteArray) (f d : Nat) : (s.extract f d).size ≤ s.size := by
  rw [← len_list, ← len_list s, extract_list]; simp; omega
/-- Number, of a piece of a text -/
theorem number_piece (w : World) (s : ByteArray) (f d : Nat) (hs : s.size ≤ 281474976710656) (hv : NumVars w) :
    Calls Tryd.prog 21 #[.string (s.extract f d)] w fun e w' => e = .returned (.tuple #[.int .i64 (Dec.num1 ((s.data.toList.take d).drop f)).1, .bool (Dec.num1 ((s.data.toList.take d).drop f)).2]) ∧ Below w.heap.size w w' := by
  have := number_any w (s.extract f d) (Nat.le_trans (extract_size s f d) hs) hv
  rwa [extract_list] at this

set_option maxHeartbeats 1000000 in
theorem readTable_any (w : World) (s : ByteArray) (hs : s.size ≤ 281474976710656) (hv : NumVars w) :
    Calls Tryd.prog 14 #[.string s] w fun e w' => e = .returned (.tuple #[.int .i64 (tab s.data.toList).1, .int .i64 ((tab s.data.toList).2.1 : Int), .int .i64 (tab s.data.toList).2.2]) ∧ Below w.heap.size w w' := by
  have HR : Hid _ := readDigits_any w s 0 hs (Nat.zero_le _)
  have HN : Hid (∀ w d, NumVars w → Calls Tryd.prog 21 #[.string (s.extract 0 d)] w fun e w' => e = .returned (.tuple #[.int .i64 (Dec.num1 (s.data.toList.take d)).1, .bool (Dec.num1 (s.data.toList.take d)).2]) ∧ Below w.heap.size w w') := fun w d h => number_piece w s 0 d hs h
  have HV : Hid (NumVars w) := hv
  have hle := digs_le s.data.toList 0 (Nat.zero_le _)
  rw [len_list] at hle
  clear hv
  by_cases h0 : (digs s.data.toList 0).2 = 0
  · have HT : Hid (tab s.data.toList = if (Dec.num1 (s.data.toList.take (digs s.data.toList 0).1)).2 = true ∧ (Dec.num1 (s.data.toList.take (digs s.data.toList 0).1)).1 ≤ 65535 then ((Dec.num1 (s.data.toList.take (digs s.data.toList 0).1)).1, (digs s.data.toList 0).1, 0) else (0, 0, 41)) := by
      rw [Hid]; conv => lhs; unfold tab
      rw [if_pos h0]
    rw [h0] at HR
    generalize (digs s.data.toList 0).1 = D at *
    generalize tab s.data.toList = T at *
    clear h0
    have HN' : Hid _ := fun w h => HN.out w D h
    generalize Dec.num1 (s.data.toList.take D) = N at *
    obtain ⟨n, b⟩ := N
    clear HN
    go_enter Tryd.func14, Tryd.ntmps14
    go_wp2_with fail
    refine Calls.mono HR.out ?_
    rintro e w1 ⟨rfl, rfl⟩
    go_wp2_with fail
    refine Calls.mono (HN'.out w1 HV.out) ?_
    rintro e w2 ⟨rfl, hb⟩
    cases b with
    | false =>
      have HE : Hid (T = (0, 0, 41)) := by rw [Hid, HT.out, if_neg (by simp)]
      clear HT HN' HR
      go_wp2
      go_ret3
      exact ⟨by rw [HE.out]; rfl, hb⟩
    | true =>
      by_cases hn : n ≤ 65535
      · have HE : Hid (T = (n, D, 0)) := by rw [Hid, HT.out, if_pos ⟨rfl, hn⟩]
        have hn' : decide (65535 < n) = false := by simp; omega
        clear HT HN' HR
        go_wp2
        go_ret3
        exact ⟨by rw [HE.out]; rfl, hb⟩
      · have HE : Hid (T = (0, 0, 41)) := by rw [Hid, HT.out, if_neg (fun h => hn h.2)]
        have hn' : 65535 < n := by omega
        clear HT HN' HR hn
        go_wp2
        go_ret3
        exact ⟨by rw [HE.out]; rfl, hb⟩
  · have HT : Hid (tab s.data.toList = (0, (digs s.data.toList 0).1, (digs s.data.toList 0).2)) := by
      rw [Hid]; unfold tab; rw [if_neg h0]
    generalize (digs s.data.toList 0).1 = D at *
    have he : ((digs s.data.toList 0).2 != 0) = true := by simpa using h0
    generalize (digs s.data.toList 0).2 = E at *
    generalize tab s.data.toList = T at *
    clear HN h0
    go_enter Tryd.func14, Tryd.ntmps14
    go_wp2_with fail
    refine Calls.mono HR.out ?_
    rintro e w1 ⟨rfl, rfl⟩
    go_wp2
    go_ret3
    exact ⟨by rw [HT.out]; rfl, Below.refl _ _⟩

set_option maxHeartbeats 2000000 in
set_option maxRecDepth 20000 in
theorem readRow_any (w : World) (s : ByteArray) (f : Nat) (hs : s.size ≤ 281474976710656) (hf : f ≤ s.size) (hv : NumVars w) :
    Calls Tryd.prog 16 #[.string s, .int .i64 (f : Int)] w fun e w' => e = .returned (.tuple #[.int .i64 (rowR s.data.toList f).1, .int .i64 ((rowR s.data.toList f).2.1 : Int), .int .i64 (rowR s.data.toList f).2.2]) ∧ Below w.heap.size w w' := by
  have HN : Hid (∀ w d, NumVars w → Calls Tryd.prog 21 #[.string (s.extract f d)] w fun e w' => e = .returned (.tuple #[.int .i64 (Dec.num1 ((s.data.toList.take d).drop f)).1, .bool (Dec.num1 ((s.data.toList.take d).drop f)).2]) ∧ Below w.heap.size w w') := fun w d h => number_piece w s f d hs h
  have HV : Hid (NumVars w) := hv
  clear hv
  have HS1 : Hid _ := fun (w : World) => stands_any w s f 45
  have HS2 : Hid _ := fun (w : World) => stands_any w s (f + 1) 48
  have cs1 : ((45 : UInt8).toNat : Int) = 45 := rfl
  have cs2 : ((48 : UInt8).toNat : Int) = 48 := rfl
  rw [cs1] at HS1
  rw [cs2] at HS2
  clear cs1 cs2
  by_cases hm : s.data.toList[f]? = some 45
  · have hfs : f < s.size := by
      by_cases h : f < s.size
      · exact h
      · rw [at_none s f h] at hm; cases hm
    have S1 : Hid (∀ w, Calls Tryd.prog 15 #[.string s, .int .i64 (f : Int), .int .u8 45] w fun e w' => e = .returned (.bool true) ∧ w = w') := fun w => by
      have := HS1.out w; rw [show decide (s.data.toList[f]? = some 45) = true by simpa using hm] at this; exact this.mono fun _ _ h => ⟨h.1, h.2.symm⟩
    clear HS1
    by_cases hz : s.data.toList[f + 1]? = some 48
    · have S2 : Hid (∀ w, Calls Tryd.prog 15 #[.string s, .int .i64 ((f : Int) + 1), .int .u8 48] w fun e w' => e = .returned (.bool true) ∧ w = w') := fun w => by
        have := HS2.out w; rw [show decide (s.data.toList[f + 1]? = some 48) = true by simpa using hz] at this; exact this.mono fun _ _ h => ⟨h.1, h.2.symm⟩
      have HT : Hid (rowR s.data.toList f = (0, f + 1, 40)) := by rw [Hid]; unfold rowR; rw [if_pos hm, if_pos hz]
      generalize rowR s.data.toList f = T at *
      clear HS2 hm hz HN
      go_enter Tryd.func16, Tryd.ntmps16
      go_wp2_with fail
      refine Calls.mono (S1.out w) ?_
      rintro e w1 ⟨rfl, rfl⟩
      go_wp2_with fail
      refine Calls.mono (S2.out w) ?_
      rintro e w1 ⟨rfl, rfl⟩
      go_wp2
      go_ret3
      exact ⟨by rw [HT.out]; rfl, Below.refl _ _⟩
    · have S2 : Hid (∀ w, Calls Tryd.prog 15 #[.string s, .int .i64 ((f : Int) + 1), .int .u8 48] w fun e w' => e = .returned (.bool false) ∧ w = w') := fun w => by
        have := HS2.out w; rw [show decide (s.data.toList[f + 1]? = some 48) = false by simpa using hz] at this; exact this.mono fun _ _ h => ⟨h.1, h.2.symm⟩
      have HT : Hid (rowR s.data.toList f = rest s.data.toList f (f + 1)) := by rw [Hid]; unfold rowR; rw [if_pos hm, if_neg hz]
      have HR : Hid (∀ w, Calls Tryd.prog 20 #[.string s, .int .i64 ((f : Int) + 1)] w fun e w' => e = .returned (.tuple #[.int .i64 ((digs s.data.toList (f + 1)).1 : Int), .int .i64 (digs s.data.toList (f + 1)).2]) ∧ w = w') := fun w =>
        (readDigits_any w s (f + 1) hs (by omega)).mono fun _ _ h => ⟨h.1, h.2.symm⟩
      have hle := digs_le s.data.toList (f + 1) (by rw [len_list]; omega)
      have hge := digs_ge s.data.toList (f + 1)
      rw [len_list] at hle
      have HU : Hid _ := rest_eq s.data.toList f (f + 1)
      generalize rowR s.data.toList f = T at *
      clear HS2 hm hz
      by_cases h0 : (digs s.data.toList (f + 1)).2 = 0
      · rw [h0] at HR HU
        generalize (digs s.data.toList (f + 1)).1 = D at *
        have hfD : f ≤ D := by omega
        have HN' : Hid _ := fun w h => HN.out w D h
        have HE : Hid (T = if (Dec.num1 ((s.data.toList.take D).drop f)).2 = true then ((Dec.num1 ((s.data.toList.take D).drop f)).1, D, 0) else (0, f, 41)) := by rw [Hid, HT.out, HU.out, if_pos rfl]
        generalize Dec.num1 ((s.data.toList.take D).drop f) = N at *
        obtain ⟨n, b⟩ := N
        clear HN HT HU h0
        go_enter Tryd.func16, Tryd.ntmps16
        go_wp2_with fail
        refine Calls.mono (S1.out w) ?_
        rintro e w1 ⟨rfl, rfl⟩
        go_wp2_with fail
        refine Calls.mono (S2.out w) ?_
        rintro e w1 ⟨rfl, rfl⟩
        go_wp2_with fail
        refine Calls.mono (HR.out w) ?_
        rintro e w1 ⟨rfl, rfl⟩
        go_wp2_with fail
        refine Calls.mono (HN'.out w HV.out) ?_
        rintro e w2 ⟨rfl, hb⟩
        cases b with
        | false =>
          have HX : Hid (T = (0, f, 41)) := by rw [Hid, HE.out, if_neg (by simp)]
          clear HE HN' HR
          go_wp2
          go_ret3
          exact ⟨by rw [HX.out]; rfl, hb⟩
        | true =>
          have HX : Hid (T = (n, D, 0)) := by rw [Hid, HE.out, if_pos rfl]
          clear HE HN' HR
          go_wp2
          go_ret3
          exact ⟨by rw [HX.out]; rfl, hb⟩
      · have HE : Hid (T = (0, (digs s.data.toList (f + 1)).1, (digs s.data.toList (f + 1)).2)) := by rw [Hid, HT.out, HU.out, if_neg h0]
        generalize (digs s.data.toList (f + 1)).1 = D at *
        have he : ((digs s.data.toList (f + 1)).2 != 0) = true := by simpa using h0
        generalize (digs s.data.toList (f + 1)).2 = E at *
        clear HN HT HU h0
        go_enter Tryd.func16, Tryd.ntmps16
        go_wp2_with fail
        refine Calls.mono (S1.out w) ?_
        rintro e w1 ⟨rfl, rfl⟩
        go_wp2_with fail
        refine Calls.mono (S2.out w) ?_
        rintro e w1 ⟨rfl, rfl⟩
        go_wp2_with fail
        refine Calls.mono (HR.out w) ?_
        rintro e w1 ⟨rfl, rfl⟩
        go_wp2
        go_ret3
        exact ⟨by rw [HE.out]; rfl, Below.refl _ _⟩
  · have S1 : Hid (∀ w, Calls Tryd.prog 15 #[.string s, .int .i64 (f : Int), .int .u8 45] w fun e w' => e = .returned (.bool false) ∧ w = w') := fun w => by
      have := HS1.out w; rw [show decide (s.data.toList[f]? = some 45) = false by simpa using hm] at this; exact this.mono fun _ _ h => ⟨h.1, h.2.symm⟩
    have HT : Hid (rowR s.data.toList f = rest s.data.toList f f) := by rw [Hid]; unfold rowR; rw [if_neg hm]
    have HR : Hid (∀ w, Calls Tryd.prog 20 #[.string s, .int .i64 (f : Int)] w fun e w' => e = .returned (.tuple #[.int .i64 ((digs s.data.toList f).1 : Int), .int .i64 (digs s.data.toList f).2]) ∧ w = w') := fun w =>
      (readDigits_any w s f hs hf).mono fun _ _ h => ⟨h.1, h.2.symm⟩
    have hle := digs_le s.data.toList f (by rw [len_list]; omega)
    have hge := digs_ge s.data.toList f
    rw [len_list] at hle
    have HU : Hid _ := rest_eq s.data.toList f f
    generalize rowR s.data.toList f = T at *
    clear HS1 HS2 hm
    by_cases h0 : (digs s.data.toList f).2 = 0
    · rw [h0] at HR HU
      generalize (digs s.data.toList f).1 = D at *
      have HN' : Hid _ := fun w h => HN.out w D h
      have HE : Hid (T = if (Dec.num1 ((s.data.toList.take D).drop f)).2 = true then ((Dec.num1 ((s.data.toList.take D).drop f)).1, D, 0) else (0, f, 41)) := by rw [Hid, HT.out, HU.out, if_pos rfl]
      generalize Dec.num1 ((s.data.toList.take D).drop f) = N at *
      obtain ⟨n, b⟩ := N
      clear HN HT HU h0
      go_enter Tryd.func16, Tryd.ntmps16
      go_wp2_with fail
      refine Calls.mono (S1.out w) ?_
      rintro e w1 ⟨rfl, rfl⟩
      go_wp2_with fail
      refine Calls.mono (HR.out w) ?_
      rintro e w1 ⟨rfl, rfl⟩
      go_wp2_with fail
      refine Calls.mono (HN'.out w HV.out) ?_
      rintro e w2 ⟨rfl, hb⟩
      cases b with
      | false =>
        have HX : Hid (T = (0, f, 41)) := by rw [Hid, HE.out, if_neg (by simp)]
        clear HE HN' HR
        go_wp2
        go_ret3
        exact ⟨by rw [HX.out]; rfl, hb⟩
      | true =>
        have HX : Hid (T = (n, D, 0)) := by rw [Hid, HE.out, if_pos rfl]
        clear HE HN' HR
        go_wp2
        go_ret3
        exact ⟨by rw [HX.out]; rfl, hb⟩
    · have HE : Hid (T = (0, (digs s.data.toList f).1, (digs s.data.toList f).2)) := by rw [Hid, HT.out, HU.out, if_neg h0]
      generalize (digs s.data.toList f).1 = D at *
      have he : ((digs s.data.toList f).2 != 0) = true := by simpa using h0
      generalize (digs s.data.toList f).2 = E at *
      clear HN HT HU h0
      go_enter Tryd.func16, Tryd.ntmps16
      go_wp2_with fail
      refine Calls.mono (S1.out w) ?_
      rintro e w1 ⟨rfl, rfl⟩
      go_wp2_with fail
      refine Calls.mono (HR.out w) ?_
      rintro e w1 ⟨rfl, rfl⟩
      go_wp2
      go_ret3
      exact ⟨by rw [HE.out]; rfl, Below.refl _ _⟩

theorem tab_le (l : List UInt8) : (tab l).2.1 ≤ l.length := by
  have := digs_le l 0 (Nat.zero_le _)
  unfold tab
  split
  · split
    · exact this
    · exact Nat.zero_le _
  · exact this

theorem two_set {w : World} {B : Nat} {a b x y : Value} {T : TypeId} (h : w.heap[B]? = some (.cells #[a, b] T (0, 0))) :
    ((w.setCell ⟨B, 0, none⟩ x).setCell ⟨B, 1, none⟩ y).cell? ⟨B, 0, none⟩ = some x ∧ ((w.setCell ⟨B, 0, none⟩ x).setCell ⟨B, 1, none⟩ y).cell? ⟨B, 1, none⟩ = some y := by
  have h1 := heap_setCell_same w B 0 _ _ x h
  have h2 := heap_setCell_same (w.setCell ⟨B, 0, none⟩ x) B 1 _ _ y h1
  constructor <;> simp [World.cell?, h2]

set_option maxHeartbeats 2000000 in
set_option maxRecDepth 20000 in
theorem parse_any (w : World) (s : ByteArray) (hs : s.size ≤ 281474976710656) (hv : NumVars w) :
    Calls Tryd.prog 7 #[.string s] w fun e w' => e = .returned (.tuple #[.agg #[.int .i64 (parse s.data.toList).1.1, .int .i64 (parse s.data.toList).1.2], .int .i64 ((parse s.data.toList).2.1 : Int), .int .i64 (parse s.data.toList).2.2]) ∧ Below w.heap.size w w' := by
  have HV : Hid (NumVars w) := hv
  clear hv
  have HA : Hid (NumVars (w.alloc (.cells #[.int .i64 0, .int .i64 0] 23))) := HV.out.kept ((Grew.refl w).alloc _).below
  have HT : Hid _ := readTable_any (w.alloc (.cells #[.int .i64 0, .int .i64 0] 23)) s hs HA.out
  have HG : Hid (Below w.heap.size w (w.alloc (.cells #[.int .i64 0, .int .i64 0] 23))) := ((Grew.refl w).alloc _).below
  have hB : (w.alloc (.cells #[.int .i64 0, .int .i64 0] 23)).heap[w.heap.size]? = some (.cells #[.int .i64 0, .int .i64 0] 23 (0, 0)) := heap_alloc_new _ _ rfl
  have hlt := tab_le s.data.toList
  rw [len_list] at hlt
  have HS : Hid _ := fun (w : World) => stands_any w s (tab s.data.toList).2.1 58
  rw [show ((58 : UInt8).toNat : Int) = 58 from rfl] at HS
  have HR : Hid (∀ w, (tab s.data.toList).2.1 + 1 ≤ s.size → NumVars w → _) := fun w h hv => readRow_any w s ((tab s.data.toList).2.1 + 1) hs h hv
  have HP : Hid (parse s.data.toList = if (tab s.data.toList).2.2 = 0 then
    if s.data.toList[(tab s.data.toList).2.1]? = some 58 then
      if (rowR s.data.toList ((tab s.data.toList).2.1 + 1)).2.2 = 0 then
        if (rowR s.data.toList ((tab s.data.toList).2.1 + 1)).2.1 < s.size then ((0, 0), (rowR s.data.toList ((tab s.data.toList).2.1 + 1)).2.1, 40) else (((tab s.data.toList).1, (rowR s.data.toList ((tab s.data.toList).2.1 + 1)).1), 0, 0)
      else ((0, 0), (rowR s.data.toList ((tab s.data.toList).2.1 + 1)).2.1, (rowR s.data.toList ((tab s.data.toList).2.1 + 1)).2.2)
    else ((0, 0), (tab s.data.toList).2.1, 40)
  else ((0, 0), (tab s.data.toList).2.1, (tab s.data.toList).2.2)) := by rw [← len_list]; rfl
  have HO : Hid ((tab s.data.toList).2.1 + 1 ≤ s.size ∨ s.data.toList[(tab s.data.toList).2.1]? ≠ some 58) := by
    rw [Hid]
    by_cases h : (tab s.data.toList).2.1 < s.size
    · exact .inl h
    · exact .inr (by rw [at_none s _ h]; simp)
  generalize tab s.data.toList = T at *
  obtain ⟨t, p, e⟩ := T
  generalize rowR s.data.toList (p + 1) = R at *
  obtain ⟨r, q, e2⟩ := R
  generalize parse s.data.toList = PR at *
  generalize hW1 : w.alloc (.cells #[.int .i64 0, .int .i64 0] 23) = W1 at *
  have HW1 : Hid _ := hW1
  clear hW1
  simp only at hlt HT HS HR HP HO
  have HZ : Hid (∀ w1, Below W1.heap.size W1 w1 → w1.cell? ⟨w.heap.size, 0, none⟩ = some (.int .i64 0) ∧ w1.cell? ⟨w.heap.size, 1, none⟩ = some (.int .i64 0) ∧ w1.frozen? ⟨w.heap.size, 0, none⟩ = false ∧ w1.frozen? ⟨w.heap.size, 1, none⟩ = false ∧ Hid (∀ x y : Value, ((w1.setCell ⟨w.heap.size, 0, none⟩ x).setCell ⟨w.heap.size, 1, none⟩ y).cell? ⟨w.heap.size, 0, none⟩ = some x ∧ ((w1.setCell ⟨w.heap.size, 0, none⟩ x).setCell ⟨w.heap.size, 1, none⟩ y).cell? ⟨w.heap.size, 1, none⟩ = some y)) := fun w1 hb => by
    have hh : w1.heap[w.heap.size]? = some (.cells #[.int .i64 0, .int .i64 0] 23 (0, 0)) := by
      rw [hb.block _ (Array.getElem?_eq_some_iff.1 hB).1]; exact hB
    refine ⟨by simp [World.cell?, hh], by simp [World.cell?, hh], frozen_of_row _ _ _ _ _ hh, frozen_of_row _ _ _ _ _ hh, fun x y => two_set hh⟩
  clear hB
  go_enter Tryd.func7, Tryd.ntmps7
  go_wp2_with fail
  rw [HW1.out]
  refine Calls.mono HT.out ?_
  rintro e' w1 ⟨rfl, hb1⟩
  obtain ⟨c0, c1, f0, f1, H2⟩ := HZ.out w1 hb1
  have HV1 : Hid (NumVars w1) := HA.out.kept hb1
  have HG1 : Hid (Below w.heap.size w w1) := HG.out.trans (hb1.mono HG.out.size)
  by_cases he : e = 0
  · subst he
    by_cases hc : s.data.toList[p]? = some 58
    · have hps : p + 1 ≤ s.size := by
        rcases HO.out with h | h
        · exact h
        · exact absurd hc h
      have HS' : Hid (∀ w, Calls Tryd.prog 15 #[.string s, .int .i64 (p : Int), .int .u8 58] w fun e w' => e = .returned (.bool true) ∧ w = w') := fun w => by
        have := HS.out w; rw [show decide (s.data.toList[p]? = some 58) = true by simpa using hc] at this; exact this.mono fun _ _ h => ⟨h.1, h.2.symm⟩
      have HR' : Hid (∀ w, NumVars w → Calls Tryd.prog 16 #[.string s, .int .i64 ((p : Int) + 1)] w fun e w' => e = .returned (.tuple #[.int .i64 r, .int .i64 (q : Int), .int .i64 e2]) ∧ Below w.heap.size w w') := fun w hv => HR.out w hps hv
      rw [if_pos rfl, if_pos hc] at HP
      clear HS HR HO hc
      go_wp2_with fail
      refine Calls.mono (HS'.out w1) ?_
      rintro e' w2 ⟨rfl, rfl⟩
      go_wp2_with fail
      refine Calls.mono (HR'.out w1 HV1.out) ?_
      rintro e' w3 ⟨rfl, hb3⟩
      clear c0 c1 f0 f1 H2
      obtain ⟨c0, c1, f0, f1, H2⟩ := HZ.out w3 (hb1.trans (hb3.mono hb1.size))
      have HG3 : Hid (Below w.heap.size w w3) := HG1.out.trans (hb3.mono HG1.out.size)
      clear HG1 HS' HR' hb3
      by_cases he2 : e2 = 0
      · subst he2
        rw [if_pos rfl] at HP
        by_cases hq : q < s.size
        · have HX : Hid (PR = ((0, 0), q, 40)) := by rw [Hid, HP.out, if_pos hq]
          have hq' : (q : Int) < (s.size : Int) := by omega
          clear HP HT HZ
          go_wp2
          refine bodyPost_ret (v := .tuple #[.agg #[.int .i64 0, .int .i64 0], .int .i64 (q : Int), .int .i64 40]) (by have h := H2.out (.int .i64 0) (.int .i64 0); generalize (w3.setCell ⟨w.heap.size, 0, none⟩ (.int .i64 0)).setCell ⟨w.heap.size, 1, none⟩ (.int .i64 0) = W9 at *; obtain ⟨h1, h2⟩ := h; simp [results, Tryd.results7, go_sem, h1, h2]) rfl ?_
          exact ⟨by rw [HX.out], (HG3.out.setCell (Nat.le_refl _) _).setCell (Nat.le_refl _) _⟩
        · have HX : Hid (PR = ((t, r), 0, 0)) := by rw [Hid, HP.out, if_neg hq]
          have hq' : decide ((q : Int) < (s.size : Int)) = false := by simp; omega
          clear HP HT HZ
          go_wp2
          refine bodyPost_ret (v := .tuple #[.agg #[.int .i64 t, .int .i64 r], .int .i64 0, .int .i64 0]) (by have h := H2.out (.int .i64 t) (.int .i64 r); generalize (w3.setCell ⟨w.heap.size, 0, none⟩ (.int .i64 t)).setCell ⟨w.heap.size, 1, none⟩ (.int .i64 r) = W9 at *; obtain ⟨h1, h2⟩ := h; simp [results, Tryd.results7, go_sem, h1, h2]) rfl ?_
          exact ⟨by rw [HX.out]; simp, (HG3.out.setCell (Nat.le_refl _) _).setCell (Nat.le_refl _) _⟩
      · have he' : (e2 != 0) = true := by simpa using he2
        have HX : Hid (PR = ((0, 0), q, e2)) := by rw [Hid, HP.out, if_neg he2]
        clear he2 HP HT HZ
        go_wp2
        refine bodyPost_ret (v := .tuple #[.agg #[.int .i64 0, .int .i64 0], .int .i64 (q : Int), .int .i64 e2]) (by have h := H2.out (.int .i64 0) (.int .i64 0); generalize (w3.setCell ⟨w.heap.size, 0, none⟩ (.int .i64 0)).setCell ⟨w.heap.size, 1, none⟩ (.int .i64 0) = W9 at *; obtain ⟨h1, h2⟩ := h; simp [results, Tryd.results7, go_sem, h1, h2]) rfl ?_
        exact ⟨by rw [HX.out], (HG3.out.setCell (Nat.le_refl _) _).setCell (Nat.le_refl _) _⟩
    · have HS' : Hid (∀ w, Calls Tryd.prog 15 #[.string s, .int .i64 (p : Int), .int .u8 58] w fun e w' => e = .returned (.bool false) ∧ w = w') := fun w => by
        have := HS.out w; rw [show decide (s.data.toList[p]? = some 58) = false by simpa using hc] at this; exact this.mono fun _ _ h => ⟨h.1, h.2.symm⟩
      have HX : Hid (PR = ((0, 0), p, 40)) := by rw [Hid, HP.out, if_pos rfl, if_neg hc]
      clear HS HR HO hc HP HZ
      go_wp2_with fail
      refine Calls.mono (HS'.out w1) ?_
      rintro e' w2 ⟨rfl, rfl⟩
      clear HT HS'
      go_wp2
      refine bodyPost_ret (v := .tuple #[.agg #[.int .i64 0, .int .i64 0], .int .i64 (p : Int), .int .i64 40]) (by have h := H2.out (.int .i64 0) (.int .i64 0); generalize (w1.setCell ⟨w.heap.size, 0, none⟩ (.int .i64 0)).setCell ⟨w.heap.size, 1, none⟩ (.int .i64 0) = W9 at *; obtain ⟨h1, h2⟩ := h; simp [results, Tryd.results7, go_sem, h1, h2]) rfl ?_
      exact ⟨by rw [HX.out], (HG1.out.setCell (Nat.le_refl _) _).setCell (Nat.le_refl _) _⟩
  · have he' : (e != 0) = true := by simpa using he
    have HX : Hid (PR = ((0, 0), p, e)) := by rw [Hid, HP.out, if_neg he]
    clear he HP HO HR HS HT HZ
    go_wp2
    refine bodyPost_ret (v := .tuple #[.agg #[.int .i64 0, .int .i64 0], .int .i64 (p : Int), .int .i64 e]) (by have h := H2.out (.int .i64 0) (.int .i64 0); generalize (w1.setCell ⟨w.heap.size, 0, none⟩ (.int .i64 0)).setCell ⟨w.heap.size, 1, none⟩ (.int .i64 0) = W9 at *; obtain ⟨h1, h2⟩ := h; simp [results, Tryd.results7, go_sem, h1, h2]) rfl ?_
    exact ⟨by rw [HX.out], (HG1.out.setCell (Nat.le_refl _) _).setCell (Nat.le_refl _) _⟩

end Go.Proofs.YtnjgaibcpcpmcaaDoor
