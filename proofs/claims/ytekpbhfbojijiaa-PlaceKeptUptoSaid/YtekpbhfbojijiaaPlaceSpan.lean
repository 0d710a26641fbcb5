/- Contracts of the spans of layer 3: place.Join, Right, Len, Meets, Move and the reference's. -/
import Derived.Test.YtekpbhfbojijiaaLater
import Derived.Deep.RegionWith
namespace Go.Proofs.Ytekpbhfbojijiaa
open Go.RowKit

/-- what is asked of stretches, as numbers -/
def rightV (a b n : Int) : Bool := decide (0 ≤ a ∧ a ≤ b ∧ b ≤ n)
def lenV (a b : Int) : Int := if 0 ≤ a ∧ a ≤ b then b - a else 0
def meetsV (a b c d : Int) : Bool := decide (max a c < min b d)

theorem join_calls (a b c d : Int) (w : World) :
    Calls Try.prog 23 #[.agg #[.int .i64 a, .int .i64 b], .agg #[.int .i64 c, .int .i64 d]] w fun e w' => e = .returned (.agg #[.int .i64 (min a c), .int .i64 (max b d)]) ∧ Below w.heap.size w w' := by
  go_enter Try.func23, Try.ntmps23
  go_wp2
  all_goals exact ret_pair (t := 34) Try.results23 rfl rfl (PairAt.made (by simp)) Try.underlying34 (by kernel_rfl) ⟨ret_p (by omega) (by omega), by go_grown⟩
theorem rjoin_calls (a b c d : Int) (w : World) :
    Calls Try.prog 24 #[.agg #[.int .i64 a, .int .i64 b], .agg #[.int .i64 c, .int .i64 d]] w fun e w' => e = .returned (.agg #[.int .i64 (min a c), .int .i64 (max b d)]) ∧ Below w.heap.size w w' := by
  go_enter Try.func24, Try.ntmps24
  go_wp2
  all_goals exact ret_pair (t := 34) Try.results24 rfl rfl (PairAt.made (by simp)) Try.underlying34 (by kernel_rfl) ⟨ret_p (by omega) (by omega), by go_grown⟩
theorem meets_calls (a b c d : Int) (w : World) :
    Calls Try.prog 21 #[.agg #[.int .i64 a, .int .i64 b], .agg #[.int .i64 c, .int .i64 d]] w fun e w' => e = .returned (.bool (meetsV a b c d)) ∧ Below w.heap.size w w' := by
  go_enter Try.func21, Try.ntmps21
  go_wp2
  all_goals
    go_ret
    exact ⟨ret_b (by unfold meetsV; rw [Bool.eq_iff_iff]; simp; omega), by go_grown⟩
theorem rmeets_calls (a b c d : Int) (w : World) :
    Calls Try.prog 22 #[.agg #[.int .i64 a, .int .i64 b], .agg #[.int .i64 c, .int .i64 d]] w fun e w' => e = .returned (.bool (meetsV a b c d)) ∧ Below w.heap.size w w' := by
  go_enter Try.func22, Try.ntmps22
  go_wp2
  all_goals
    go_ret
    exact ⟨ret_b (by unfold meetsV; rw [Bool.eq_iff_iff]; simp; omega), by go_grown⟩
theorem rright_calls (a b n : Int) (w : World) :
    Calls Try.prog 20 #[.agg #[.int .i64 a, .int .i64 b], .int .i64 n] w fun e w' => e = .returned (.bool (rightV a b n)) ∧ Below w.heap.size w w' := by
  go_enter Try.func20, Try.ntmps20
  go_wp2
  all_goals
    go_ret
    exact ⟨ret_b (by unfold rightV; rw [Bool.eq_iff_iff]; simp; omega), by go_grown⟩
theorem rlen_calls (a b : Int) (w : World) (ha : -9223372036854775808 ≤ a ∧ a ≤ 9223372036854775807) (hb : -9223372036854775808 ≤ b ∧ b ≤ 9223372036854775807) :
    Calls Try.prog 18 #[.agg #[.int .i64 a, .int .i64 b]] w fun e w' => e = .returned (.int .i64 (lenV a b)) ∧ Below w.heap.size w w' := by
  go_enter Try.func18, Try.ntmps18
  go_wp2
  all_goals
    go_ret
    exact ⟨ret_i (by unfold lenV; split <;> omega), by go_grown⟩
theorem join_text (a b n x y : Int) (hx : Hid (min a 0 = x)) (hy : Hid (max b n = y)) (w : World) :
    Calls Try.prog 23 #[.agg #[.int .i64 a, .int .i64 b], .agg #[.int .i64 0, .int .i64 n]] w fun e w' => e = .returned (.agg #[.int .i64 x, .int .i64 y]) ∧ Below w.heap.size w w' := by
  rw [← hx.out, ← hy.out]
  exact join_calls a b 0 n w
theorem right_yes (a b n : Int) (w : World) (h : a ≤ b) (h1 : 0 ≤ a ∧ b ≤ n) :
    Calls Try.prog 19 #[.agg #[.int .i64 a, .int .i64 b], .int .i64 n] w fun e w' => e = .returned (.bool true) ∧ Below w.heap.size w w' := by
  have hx := hidden (show min a 0 = 0 by omega)
  have hy := hidden (show max b n = n by omega)
  have hd : decide (a ≤ b) = true := by simp [h]
  clear h1
  go_enter Try.func19, Try.ntmps19
  go_wp2
  have hP := PairAt.made (t := 34) (w := w.alloc (.cells #[.int .i64 a, .int .i64 b] 34)) (a := 0) (b := n) (B := w.heap.size + 1) (by simp)
  have hA := (PairAt.new 34 w a b).alloc (.cells #[.int .i64 0, .int .i64 n] 34)
  have p0 := hP.later0
  have p1 := hP.later1
  have a0 := hA.later0
  have a1 := hA.later1
  clear hP hA
  refine wp_region_later (by kernel_rfl) (by kernel_rfl) ?_
  repeat (go_big_quiet_step (exact Later.calls (join_text a b n _ _ hx hy _)))
  refine wpQuiet_nil ?_
  rintro _ ⟨⟨w1, hb1⟩, rfl⟩
  go_wp2
  go_ret
  exact ⟨rfl, below_then (by go_grown) (by simp; omega) hb1⟩
theorem right_low (a b n : Int) (w : World) (h : a ≤ b) (h1 : a < 0) :
    Calls Try.prog 19 #[.agg #[.int .i64 a, .int .i64 b], .int .i64 n] w fun e w' => e = .returned (.bool false) ∧ Below w.heap.size w w' := by
  have hx := hidden (show min a 0 = a by omega)
  obtain ⟨y, hy0⟩ : ∃ y, max b n = y := ⟨_, rfl⟩
  have hy := hidden hy0
  clear hy0
  have hd : decide (a ≤ b) = true := by simp [h]
  have hq : (a == 0) = false := by simp; omega
  clear h1
  go_enter Try.func19, Try.ntmps19
  go_wp2
  have hP := PairAt.made (t := 34) (w := w.alloc (.cells #[.int .i64 a, .int .i64 b] 34)) (a := 0) (b := n) (B := w.heap.size + 1) (by simp)
  have hA := (PairAt.new 34 w a b).alloc (.cells #[.int .i64 0, .int .i64 n] 34)
  have p0 := hP.later0
  have p1 := hP.later1
  have a0 := hA.later0
  have a1 := hA.later1
  clear hP hA
  refine wp_region_later (by kernel_rfl) (by kernel_rfl) ?_
  repeat (go_big_quiet_step (exact Later.calls (join_text a b n _ _ hx hy _)))
  refine wpQuiet_nil ?_
  rintro _ ⟨⟨w1, hb1⟩, rfl⟩
  go_wp2
  go_ret
  exact ⟨rfl, below_then (by go_grown) (by simp; omega) hb1⟩
theorem right_high (a b n : Int) (w : World) (h : a ≤ b) (h1 : 0 ≤ a ∧ n < b) :
    Calls Try.prog 19 #[.agg #[.int .i64 a, .int .i64 b], .int .i64 n] w fun e w' => e = .returned (.bool false) ∧ Below w.heap.size w w' := by
  have hx := hidden (show min a 0 = 0 by omega)
  have hy := hidden (show max b n = b by omega)
  have hd : decide (a ≤ b) = true := by simp [h]
  have hq : (b == n) = false := by simp; omega
  clear h1
  go_enter Try.func19, Try.ntmps19
  go_wp2
  have hP := PairAt.made (t := 34) (w := w.alloc (.cells #[.int .i64 a, .int .i64 b] 34)) (a := 0) (b := n) (B := w.heap.size + 1) (by simp)
  have hA := (PairAt.new 34 w a b).alloc (.cells #[.int .i64 0, .int .i64 n] 34)
  have p0 := hP.later0
  have p1 := hP.later1
  have a0 := hA.later0
  have a1 := hA.later1
  clear hP hA
  refine wp_region_later (by kernel_rfl) (by kernel_rfl) ?_
  repeat (go_big_quiet_step (exact Later.calls (join_text a b n _ _ hx hy _)))
  refine wpQuiet_nil ?_
  rintro _ ⟨⟨w1, hb1⟩, rfl⟩
  go_wp2
  go_ret
  exact ⟨rfl, below_then (by go_grown) (by simp; omega) hb1⟩
theorem right_no (a b n : Int) (w : World) (h : b < a) :
    Calls Try.prog 19 #[.agg #[.int .i64 a, .int .i64 b], .int .i64 n] w fun e w' => e = .returned (.bool false) ∧ Below w.heap.size w w' := by
  have hd : decide (a ≤ b) = false := by simp; omega
  go_enter Try.func19, Try.ntmps19
  go_wp2
  go_quiet (fail)
  go_wp2
  go_ret
  exact ⟨rfl, below_drawn (by go_grown) _⟩
theorem right_calls (a b n : Int) (w : World) :
    Calls Try.prog 19 #[.agg #[.int .i64 a, .int .i64 b], .int .i64 n] w fun e w' => e = .returned (.bool (rightV a b n)) ∧ Below w.heap.size w w' := by
  by_cases h : a ≤ b
  · by_cases h1 : a < 0
    · rw [show rightV a b n = false by unfold rightV; simp; omega]
      exact right_low a b n w h h1
    · by_cases h2 : b ≤ n
      · rw [show rightV a b n = true by unfold rightV; simp; omega]
        exact right_yes a b n w h ⟨by omega, h2⟩
      · rw [show rightV a b n = false by unfold rightV; simp; omega]
        exact right_high a b n w h ⟨by omega, by omega⟩
  · rw [show rightV a b n = false by unfold rightV; simp; omega]
    exact right_no a b n w (by omega)
theorem right_self (a b : Int) : rightV a b b = decide (0 ≤ a ∧ a ≤ b) := by
  unfold rightV
  rw [Bool.eq_iff_iff]
  simp
theorem len_calls (a b : Int) (w : World) (ha : -9223372036854775808 ≤ a ∧ a ≤ 9223372036854775807) (hb : -9223372036854775808 ≤ b ∧ b ≤ 9223372036854775807) :
    Calls Try.prog 17 #[.agg #[.int .i64 a, .int .i64 b]] w fun e w' => e = .returned (.int .i64 (lenV a b)) ∧ Below w.heap.size w w' := by
  by_cases h : 0 ≤ a ∧ a ≤ b
  · have hr := hidden (show rightV a b b = true by rw [right_self]; simpa using h)
    have hl := hidden (show lenV a b = b - a by rw [lenV, if_pos h])
    have h0 := h.1
    have h1 := h.2
    clear h
    go_enter Try.func17, Try.ntmps17
    go_wp2_with fail
    refine (right_calls a b b _).mono ?_
    rintro e w1 ⟨rfl, hb1⟩
    rw [hr.out]
    obtain ⟨c0, c1, _, _⟩ := ((PairAt.new 34 w a b).below hb1).facts
    go_wp2
    go_ret
    exact ⟨ret_i (by rw [hl.out]), below_then (by go_grown) (by simp) hb1⟩
  · have hr := hidden (show rightV a b b = false by rw [right_self]; simpa using h)
    have hl := hidden (show lenV a b = 0 by rw [lenV, if_neg h])
    clear h
    go_enter Try.func17, Try.ntmps17
    go_wp2_with fail
    refine (right_calls a b b _).mono ?_
    rintro e w1 ⟨rfl, hb1⟩
    rw [hr.out]
    go_wp2
    go_ret
    exact ⟨ret_i (by rw [hl.out]), below_then (by go_grown) (by simp) hb1⟩

/-- where a stretch is when a text is changed -/
def moveV (a b at' cut put : Int) : (Int × Int) × Bool :=
  if 0 ≤ a ∧ a ≤ b ∧ b ≤ 1099511627776 ∧ 0 ≤ at' ∧ at' ≤ 1099511627776 ∧ 0 ≤ cut ∧ cut ≤ 1099511627776 ∧ 0 ≤ put ∧ put ≤ 1099511627776 then
    if b ≤ at' then ((a, b), true) else if at' + cut ≤ a then ((a - cut + put, b - cut + put), true) else ((0, 0), false)
  else ((0, 0), false)
def moved (x : (Int × Int) × Bool) : Ending := .returned (.tuple #[.agg #[.int .i64 x.1.1, .int .i64 x.1.2], .bool x.2])
theorem moveV_out {a b at' cut put : Int} (h : ¬ (0 ≤ a ∧ a ≤ b ∧ b ≤ 1099511627776 ∧ 0 ≤ at' ∧ at' ≤ 1099511627776 ∧ 0 ≤ cut ∧ cut ≤ 1099511627776 ∧ 0 ≤ put ∧ put ≤ 1099511627776)) : moveV a b at' cut put = ((0, 0), false) := if_neg h
theorem moveV_same {a b at' cut put : Int} (h : 0 ≤ a ∧ a ≤ b ∧ b ≤ 1099511627776 ∧ 0 ≤ at' ∧ at' ≤ 1099511627776 ∧ 0 ≤ cut ∧ cut ≤ 1099511627776 ∧ 0 ≤ put ∧ put ≤ 1099511627776) (h1 : b ≤ at') : moveV a b at' cut put = ((a, b), true) := by
  rw [moveV, if_pos h, if_pos h1]
theorem moveV_on {a b at' cut put : Int} (h : 0 ≤ a ∧ a ≤ b ∧ b ≤ 1099511627776 ∧ 0 ≤ at' ∧ at' ≤ 1099511627776 ∧ 0 ≤ cut ∧ cut ≤ 1099511627776 ∧ 0 ≤ put ∧ put ≤ 1099511627776) (h1 : ¬ b ≤ at') (h2 : at' + cut ≤ a) : moveV a b at' cut put = ((a - cut + put, b - cut + put), true) := by
  rw [moveV, if_pos h, if_neg h1, if_pos h2]
theorem moveV_lost {a b at' cut put : Int} (h : 0 ≤ a ∧ a ≤ b ∧ b ≤ 1099511627776 ∧ 0 ≤ at' ∧ at' ≤ 1099511627776 ∧ 0 ≤ cut ∧ cut ≤ 1099511627776 ∧ 0 ≤ put ∧ put ≤ 1099511627776) (h1 : ¬ b ≤ at') (h2 : ¬ at' + cut ≤ a) : moveV a b at' cut put = ((0, 0), false) := by
  rw [moveV, if_pos h, if_neg h1, if_neg h2]
theorem moved_eq {x : (Int × Int) × Bool} {a b : Int} {c : Bool} (h : x = ((a, b), c)) : Ending.returned (.tuple #[.agg #[.int .i64 a, .int .i64 b], .bool c]) = moved x := by rw [h]; rfl

theorem min3 (x y z : Int) : ∃ m : Int, (∀ (ts : Array TypeId) (t : TypeId) (w : World), (Builtin.min_ ts t #[.int .i64 x, .int .i64 y, .int .i64 z]).run Try.prog w = .ok (.int .i64 m) w) ∧ (m < 0 ↔ x < 0 ∨ y < 0 ∨ z < 0) := by
  refine ⟨if z < (if y < x then y else x) then z else (if y < x then y else x), fun ts t w => by simp [Builtin.min_, Builtin.min2], ?_⟩
  split <;> split <;> omega
theorem max3 (x y z : Int) : ∃ m : Int, (∀ (ts : Array TypeId) (t : TypeId) (w : World), (Builtin.max_ ts t #[.int .i64 x, .int .i64 y, .int .i64 z]).run Try.prog w = .ok (.int .i64 m) w) ∧ (1099511627776 < m ↔ 1099511627776 < x ∨ 1099511627776 < y ∨ 1099511627776 < z) := by
  refine ⟨if (if x < y then y else x) < z then z else (if x < y then y else x), fun ts t w => by simp [Builtin.max_, Builtin.max2], ?_⟩
  split <;> split <;> omega
end Go.Proofs.Ytekpbhfbojijiaa
