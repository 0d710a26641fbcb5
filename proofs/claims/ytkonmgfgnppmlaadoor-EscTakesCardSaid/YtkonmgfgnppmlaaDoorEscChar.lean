/- Contracts of nameOf, named, printed, Char and the reference's Char. -/
import Derived.Test.YtkonmgfgnppmlaaDoorEscMath
import Derived.Test.YtkonmgfgnppmlaaDoorTexts
namespace Go.Proofs.YtkonmgfgnppmlaaDoor
open Go.RowKit

/-- the table of names as it is laid -/
def tabN : List Int := [110, 10, 116, 9, 114, 13, 34, 34, 92, 92]
def Tab (w : World) : Prop := ∀ j, j < 10 → w.cell? ⟨0, j, none⟩ = some (.int .u8 (tabN.getD j 0))
theorem tab_lt {w : World} (h : Tab w) : 0 < w.heap.size := cell_lt (h 0 (by decide))
theorem Tab.below {w w' : World} (h : Tab w) (hb : Below w.heap.size w w') : Tab w' := fun j hj => (hb.cell (p := ⟨0, j, none⟩) (tab_lt h)).trans (h j hj)
/-- the table, loaded whole -/
def tabV : Value := .agg #[.int .u8 110, .int .u8 10, .int .u8 116, .int .u8 9, .int .u8 114, .int .u8 13, .int .u8 34, .int .u8 34, .int .u8 92, .int .u8 92]

def nameV (n : Int) : Int × Bool := if n = 10 then (110, true) else if n = 9 then (116, true) else if n = 13 then (114, true) else if n = 34 then (34, true) else if n = 92 then (92, true) else (0, false)
def nameW (n : Int) : Int × Bool := if n = 110 then (10, true) else if n = 116 then (9, true) else if n = 114 then (13, true) else if n = 34 then (34, true) else if n = 92 then (92, true) else (0, false)

set_option maxHeartbeats 2000000 in
set_option maxRecDepth 100000 in
theorem nameOf_calls (n : Int) (w : World) (ht : Tab w) :
    Calls Tryd.prog 15 #[.int .u8 n] w fun e w' => e = .returned (.tuple #[.int .u8 (nameV n).1, .bool (nameV n).2]) ∧ Below w.heap.size w w' := by
  have c0 := ht 0 (by decide)
  have c1 := ht 1 (by decide)
  have c2 := ht 2 (by decide)
  have c3 := ht 3 (by decide)
  have c4 := ht 4 (by decide)
  have c5 := ht 5 (by decide)
  have c6 := ht 6 (by decide)
  have c7 := ht 7 (by decide)
  have c8 := ht 8 (by decide)
  have c9 := ht 9 (by decide)
  simp only [tabN, List.getD_cons_zero, List.getD_cons_succ] at c0 c1 c2 c3 c4 c5 c6 c7 c8 c9
  have i0 : ∀ w, (Instr.index 52 tabV (.int .i64 0)).run Tryd.prog w = .ok (.agg #[.int .u8 110, .int .u8 10]) w := fun _ => by kernel_rfl
  have i1 : ∀ w, (Instr.index 52 tabV (.int .i64 1)).run Tryd.prog w = .ok (.agg #[.int .u8 116, .int .u8 9]) w := fun _ => by kernel_rfl
  have i2 : ∀ w, (Instr.index 52 tabV (.int .i64 2)).run Tryd.prog w = .ok (.agg #[.int .u8 114, .int .u8 13]) w := fun _ => by kernel_rfl
  have i3 : ∀ w, (Instr.index 52 tabV (.int .i64 3)).run Tryd.prog w = .ok (.agg #[.int .u8 34, .int .u8 34]) w := fun _ => by kernel_rfl
  have i4 : ∀ w, (Instr.index 52 tabV (.int .i64 4)).run Tryd.prog w = .ok (.agg #[.int .u8 92, .int .u8 92]) w := fun _ => by kernel_rfl
  unfold tabV at i0 i1 i2 i3 i4
  go_enter Tryd.func15, Tryd.ntmps15
  go_wp2
  clear c0 c1 c2 c3 c4 c5 c6 c7 c8 c9
  go_loopw [7] (fun i wr => ∃ k : Int, 0 ≤ k ∧ k ≤ 5 ∧ i = .int .i64 k ∧ ((0 < k → n ≠ 10) ∧ (1 < k → n ≠ 9) ∧ (2 < k → n ≠ 13) ∧ (3 < k → n ≠ 34) ∧ (4 < k → n ≠ 92)) ∧ Below w.heap.size w wr) (fun i _ => 5 - (intOf i).toNat)
  case atStart => exact ⟨0, by omega, by omega, rfl, ⟨by omega, by omega, by omega, by omega, by omega⟩, Below.refl _ _⟩
  case round =>
    obtain ⟨k, hk0, hk5, rfl, hf, hb⟩ := hrel
    have HF := hidden hf
    have HB := hidden hb
    clear hf hb
    rcases (show k = 0 ∨ k = 1 ∨ k = 2 ∨ k = 3 ∨ k = 4 ∨ k = 5 by omega) with rfl | rfl | rfl | rfl | rfl | rfl
    all_goals go_wp2
    all_goals first
      | (go_roundw
         case rel =>
           rename_i he
           have hn := beq_eq_false_iff_ne.1 he
           have hf := HF.out
           exact ⟨_, by omega, by omega, rfl, ⟨by omega, by omega, by omega, by omega, by omega⟩, HB.out.alloc HB.out.size _⟩
         case measure => simp [intOf])
      | (go_ret2
         rename_i he
         obtain rfl := beq_iff_eq.1 he
         exact ⟨ret_ib (by decide) (by decide), HB.out.alloc HB.out.size _⟩)
      | (go_ret2
         have hf := HF.out
         have e : nameV n = (0, false) := by
           unfold nameV
           rw [if_neg (by omega), if_neg (by omega), if_neg (by omega), if_neg (by omega), if_neg (by omega)]
         rw [e]
         exact ⟨rfl, HB.out⟩)
set_option maxHeartbeats 2000000 in
set_option maxRecDepth 100000 in
theorem named_calls (n : Int) (w : World) (ht : Tab w) :
    Calls Tryd.prog 33 #[.int .u8 n] w fun e w' => e = .returned (.tuple #[.int .u8 (nameW n).1, .bool (nameW n).2]) ∧ Below w.heap.size w w' := by
  have c0 := ht 0 (by decide)
  have c1 := ht 1 (by decide)
  have c2 := ht 2 (by decide)
  have c3 := ht 3 (by decide)
  have c4 := ht 4 (by decide)
  have c5 := ht 5 (by decide)
  have c6 := ht 6 (by decide)
  have c7 := ht 7 (by decide)
  have c8 := ht 8 (by decide)
  have c9 := ht 9 (by decide)
  simp only [tabN, List.getD_cons_zero, List.getD_cons_succ] at c0 c1 c2 c3 c4 c5 c6 c7 c8 c9
  have i0 : ∀ w, (Instr.index 52 tabV (.int .i64 0)).run Tryd.prog w = .ok (.agg #[.int .u8 110, .int .u8 10]) w := fun _ => by kernel_rfl
  have i1 : ∀ w, (Instr.index 52 tabV (.int .i64 1)).run Tryd.prog w = .ok (.agg #[.int .u8 116, .int .u8 9]) w := fun _ => by kernel_rfl
  have i2 : ∀ w, (Instr.index 52 tabV (.int .i64 2)).run Tryd.prog w = .ok (.agg #[.int .u8 114, .int .u8 13]) w := fun _ => by kernel_rfl
  have i3 : ∀ w, (Instr.index 52 tabV (.int .i64 3)).run Tryd.prog w = .ok (.agg #[.int .u8 34, .int .u8 34]) w := fun _ => by kernel_rfl
  have i4 : ∀ w, (Instr.index 52 tabV (.int .i64 4)).run Tryd.prog w = .ok (.agg #[.int .u8 92, .int .u8 92]) w := fun _ => by kernel_rfl
  unfold tabV at i0 i1 i2 i3 i4
  go_enter Tryd.func33, Tryd.ntmps33
  go_wp2
  clear c0 c1 c2 c3 c4 c5 c6 c7 c8 c9
  go_loopw [7] (fun i wr => ∃ k : Int, 0 ≤ k ∧ k ≤ 5 ∧ i = .int .i64 k ∧ ((0 < k → n ≠ 110) ∧ (1 < k → n ≠ 116) ∧ (2 < k → n ≠ 114) ∧ (3 < k → n ≠ 34) ∧ (4 < k → n ≠ 92)) ∧ Below w.heap.size w wr) (fun i _ => 5 - (intOf i).toNat)
  case atStart => exact ⟨0, by omega, by omega, rfl, ⟨by omega, by omega, by omega, by omega, by omega⟩, Below.refl _ _⟩
  case round =>
    obtain ⟨k, hk0, hk5, rfl, hf, hb⟩ := hrel
    have HF := hidden hf
    have HB := hidden hb
    clear hf hb
    rcases (show k = 0 ∨ k = 1 ∨ k = 2 ∨ k = 3 ∨ k = 4 ∨ k = 5 by omega) with rfl | rfl | rfl | rfl | rfl | rfl
    all_goals go_wp2
    all_goals first
      | (go_roundw
         case rel =>
           rename_i he
           have hn := beq_eq_false_iff_ne.1 he
           have hf := HF.out
           exact ⟨_, by omega, by omega, rfl, ⟨by omega, by omega, by omega, by omega, by omega⟩, HB.out.alloc HB.out.size _⟩
         case measure => simp [intOf])
      | (go_ret2
         rename_i he
         obtain rfl := beq_iff_eq.1 he
         exact ⟨ret_ib (by decide) (by decide), HB.out.alloc HB.out.size _⟩)
      | (go_ret2
         have hf := HF.out
         have e : nameW n = (0, false) := by
           unfold nameW
           rw [if_neg (by omega), if_neg (by omega), if_neg (by omega), if_neg (by omega), if_neg (by omega)]
         rw [e]
         exact ⟨rfl, HB.out⟩)
theorem printed_calls (n : Int) (w : World) :
    Calls Tryd.prog 16 #[.int .u8 n] w fun e w' => e = .returned (.bool (decide (32 ≤ n ∧ n ≤ 126))) ∧ w = w' := by
  by_cases h : 32 ≤ n
  · have hd : decide (32 ≤ n) = true := by simp; omega
    go_enter Tryd.func16, Tryd.ntmps16
    go_wp2
    go_ret
    exact ⟨ret_b (by simp [h]), rfl⟩
  · have hd : decide (32 ≤ n) = false := by simp; omega
    go_enter Tryd.func16, Tryd.ntmps16
    go_wp2
    go_ret
    exact ⟨ret_b (by symm; simp), rfl⟩

/-- a text of one byte, of two: converted from a block of the call's own -/
theorem conv_one (w : World) (a : Int) : (convert 35 9 (.slice (some ⟨w.heap.size, 0, none⟩) 1 1)).run Tryd.prog (w.alloc (.cells #[.int .u8 a] 5)) = .ok (.string (strOfNums [a])) (w.alloc (.cells #[.int .u8 a] 5)) :=
  run_convert_bytes_arg _ 35 5 Tryd.underlying35 Tryd.underlying5 w.heap.size 0 1 1 [a] rfl (by
    intro i hi
    match i, hi with
    | 0, _ => simp) 9 Tryd.underlying9
theorem conv_pair (w : World) (a b : Int) : (convert 35 9 (.slice (some ⟨w.heap.size, 0, none⟩) 2 2)).run Tryd.prog (w.alloc (.cells #[.int .u8 a, .int .u8 b] 5)) = .ok (.string (strOfNums [a, b])) (w.alloc (.cells #[.int .u8 a, .int .u8 b] 5)) :=
  run_convert_bytes_arg _ 35 5 Tryd.underlying35 Tryd.underlying5 w.heap.size 0 2 2 [a, b] rfl (by
    intro i hi
    match i, hi with
    | 0, _ => simp
    | 1, _ => simp) 9 Tryd.underlying9
theorem hexed (a b : Int) : (⟨#[92, 120]⟩ : ByteArray) ++ strOfNums [a, b] = strOfNums [92, 120, a, b] := by
  apply Go.WideShapes.bytes_inj
  simp [strOfNums]

theorem chr_ways (n : Int) : chrN n = if (nameV n).2 = true then [92, (nameV n).1] else if 32 ≤ n ∧ n ≤ 126 then [n] else [92, 120, hexDigit (n / 16), hexDigit (n % 16)] := by
  unfold chrN nameV
  by_cases h1 : n = 10
  · subst h1; rfl
  by_cases h2 : n = 9
  · subst h2; rfl
  by_cases h3 : n = 13
  · subst h3; rfl
  by_cases h4 : n = 34
  · subst h4; rfl
  by_cases h5 : n = 92
  · subst h5; rfl
  simp [h1, h2, h3, h4, h5]
set_option maxHeartbeats 1000000 in
theorem char_calls (n : Int) (w : World) (ht : Tab w) (h0 : 0 ≤ n) (h1 : n < 256) :
    Calls Tryd.prog 7 #[.int .u8 n] w fun e w' => e = .returned (.string (chrB n)) ∧ Below w.heap.size w w' := by
  have HT := hidden ht
  have hN := hidden (nameOf_calls n w ht)
  clear ht
  by_cases hb : (nameV n).2 = true
  · have hC := hidden (show chrB n = strOfNums [92, (nameV n).1] by
      rw [chrB, chr_ways, if_pos hb])
    have hc := fun W b => conv_pair W 92 b
    rw [hb] at hN
    clear hb
    generalize (nameV n).1 = v at hN hC
    go_enter Tryd.func7, Tryd.ntmps7
    go_wp2_with fail
    refine hN.out.mono ?_
    rintro e w1 ⟨rfl, hb1⟩
    go_wp2
    go_ret
    exact ⟨ret_s hC.out.symm, hb1.alloc hb1.size _⟩
  · have hb : (nameV n).2 = false := by simpa using hb
    rw [hb] at hN
    generalize (nameV n).1 = v at hN
    by_cases hp : 32 ≤ n ∧ n ≤ 126
    · have hP := hidden (fun W => printed_calls n W)
      have hd : decide (32 ≤ n ∧ n ≤ 126) = true := by simpa using hp
      rw [hd] at hP
      have hC := hidden (show chrB n = strOfNums [n] by rw [chrB, chr_ways, if_neg (by rw [hb]; decide), if_pos hp])
      have hc := fun W b => conv_one W b
      go_enter Tryd.func7, Tryd.ntmps7
      go_wp2_with fail
      refine hN.out.mono ?_
      rintro e w1 ⟨rfl, hb1⟩
      go_wp2_with fail
      refine (hP.out _).mono ?_
      rintro e w' ⟨rfl, rfl⟩
      go_wp2
      go_ret
      exact ⟨ret_s hC.out.symm, hb1.alloc hb1.size _⟩
    · have hP := hidden (fun W => printed_calls n W)
      have hd : decide (32 ≤ n ∧ n ≤ 126) = false := by simpa using hp
      rw [hd] at hP
      have hC := hidden (show chrB n = (⟨#[92, 120]⟩ : ByteArray) ++ strOfNums [hexDigit (n / 16), hexDigit (n % 16)] by rw [hexed, chrB, chr_ways, if_neg (by rw [hb]; decide), if_neg hp])
      have hz : (strOfNums [hexDigit (n / 16), hexDigit (n % 16)]).size = 2 := by rw [strOfNums_size]; rfl
      go_enter Tryd.func7, Tryd.ntmps7
      go_wp2_with fail
      refine hN.out.mono ?_
      rintro e w1 ⟨rfl, hb1⟩
      go_wp2_with fail
      refine (hP.out _).mono ?_
      rintro e w' ⟨rfl, rfl⟩
      go_wp2_with fail
      refine (hex_calls n _ h0 h1).mono ?_
      rintro e w2 ⟨rfl, hb2⟩
      go_wp2
      go_ret
      exact ⟨ret_s hC.out.symm, below_after hb1 hb2⟩
set_option maxHeartbeats 1000000 in
theorem rchar_calls (n : Int) (w : World) (h0 : 0 ≤ n) (h1 : n < 256) :
    Calls Tryd.prog 8 #[.int .u8 n] w fun e w' => e = .returned (.string (chrB n)) ∧ Below w.heap.size w w' := by
  have hc := fun W b => conv_pair W 92 b
  have hc1 := fun W b => conv_one W b
  by_cases h10 : n = 10
  · subst h10
    go_enter Tryd.func8, Tryd.ntmps8
    go_wp2
    go_ret
    exact ⟨ret_s (by decide +kernel), Below.refl _ _⟩
  by_cases h9 : n = 9
  · subst h9
    go_enter Tryd.func8, Tryd.ntmps8
    go_wp2
    go_ret
    exact ⟨ret_s (by decide +kernel), Below.refl _ _⟩
  by_cases h13 : n = 13
  · subst h13
    go_enter Tryd.func8, Tryd.ntmps8
    go_wp2
    go_ret
    exact ⟨ret_s (by decide +kernel), Below.refl _ _⟩
  by_cases h34 : n = 34
  · subst h34
    go_enter Tryd.func8, Tryd.ntmps8
    go_wp2
    go_ret
    exact ⟨ret_s (by decide +kernel), (Below.refl _ _).alloc (Nat.le_refl _) _⟩
  by_cases h92 : n = 92
  · subst h92
    go_enter Tryd.func8, Tryd.ntmps8
    go_wp2
    go_ret
    exact ⟨ret_s (by decide +kernel), (Below.refl _ _).alloc (Nat.le_refl _) _⟩
  have e10 : (n == 10) = false := by simpa using h10
  have e9 : (n == 9) = false := by simpa using h9
  have e13 : (n == 13) = false := by simpa using h13
  have e34 : (n == 34) = false := by simpa using h34
  have e92 : (n == 92) = false := by simpa using h92
  by_cases hp : 32 ≤ n ∧ n ≤ 126
  · have hC := hidden (show chrB n = strOfNums [n] by unfold chrB chrN; rw [if_neg h10, if_neg h9, if_neg h13, if_neg (by omega), if_pos hp])
    obtain ⟨hp1, hp2⟩ := hp
    have d1 : decide (32 ≤ n) = true := by simpa using hp1
    have d2 : decide (n ≤ 126) = true := by simpa using hp2
    clear h10 h9 h13 h34 h92
    go_enter Tryd.func8, Tryd.ntmps8
    go_wp2
    go_ret
    exact ⟨ret_s hC.out.symm, (Below.refl _ _).alloc (Nat.le_refl _) _⟩
  · have hC := hidden (show chrB n = (⟨#[92, 120]⟩ : ByteArray) ++ strOfNums [hexDigit (n / 16), hexDigit (n % 16)] by rw [hexed]; unfold chrB chrN; rw [if_neg h10, if_neg h9, if_neg h13, if_neg (by omega), if_neg hp])
    have hz : (strOfNums [hexDigit (n / 16), hexDigit (n % 16)]).size = 2 := by rw [strOfNums_size]; rfl
    by_cases hl : 32 ≤ n
    all_goals
      clear h10 h9 h13 h34 h92
      go_enter Tryd.func8, Tryd.ntmps8
      go_wp2_with fail
      refine (rhex_calls n _ h0 h1).mono ?_
      rintro e w2 ⟨rfl, hb2⟩
      go_wp2
      go_ret
      exact ⟨ret_s hC.out.symm, hb2⟩
theorem chrB_size (n : Int) (h0 : 0 ≤ n) (h1 : n < 256) : (chrB n).size ≤ 4 := by
  obtain ⟨k, rfl⟩ := Int.eq_ofNat_of_zero_le h0
  have := chr_le k (by omega)
  rw [← chrB_data] at this
  simpa using this
end Go.Proofs.YtkonmgfgnppmlaaDoor
