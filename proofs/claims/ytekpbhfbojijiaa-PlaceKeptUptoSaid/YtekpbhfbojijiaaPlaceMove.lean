/- Contracts of place.Move and the reference's Move. -/
import Derived.Test.YtekpbhfbojijiaaPlaceSpan
namespace Go.Proofs.Ytekpbhfbojijiaa
open Go.RowKit

set_option maxHeartbeats 1000000 in
theorem move_yes (a b at' cut put : Int) (w : World) (q : 0 ≤ a ∧ a ≤ b ∧ b ≤ 1099511627776 ∧ 0 ≤ at' ∧ at' ≤ 1099511627776 ∧ 0 ≤ cut ∧ cut ≤ 1099511627776 ∧ 0 ≤ put ∧ put ≤ 1099511627776) :
    Calls Try.prog 25 #[.agg #[.int .i64 a, .int .i64 b], .int .i64 at', .int .i64 cut, .int .i64 put] w fun e w' => e = moved (moveV a b at' cut put) ∧ Below w.heap.size w w' := by
  have HR := hidden (show rightV a b 1099511627776 = true by unfold rightV; simp; omega)
  have V1 := fun h => hidden (moveV_same q h)
  have V2 := fun h h' => hidden (moveV_on q h h')
  have V3 := fun h h' => hidden (moveV_lost q h h')
  obtain ⟨m, hm, hm0⟩ := min3 at' cut put
  obtain ⟨n, hn, hn0⟩ := max3 at' cut put
  have m0 : 0 ≤ m := by omega
  have n0 : n ≤ 1099511627776 := by omega
  obtain ⟨r1, r2, r3, q1, q2, q3, q4, q5, q6⟩ := q
  clear hm0 hn0
  generalize hR : moved (moveV a b at' cut put) = R
  have HM := hidden hR
  clear hR
  go_enter Try.func25, Try.ntmps25
  go_wp2_with fail
  refine (right_calls a b _ _).mono ?_
  rintro e w1 ⟨rfl, hb1⟩
  rw [HR.out]
  have hz := ((PairAt.made (t := 34) (w := w.alloc (.cells #[.int .i64 a, .int .i64 b] 34)) (a := 0) (b := 0) (B := w.heap.size + 1) (by simp)).below hb1)
  have ha := (((PairAt.new 34 w a b).alloc (.cells #[.int .i64 0, .int .i64 0] 34)).below hb1)
  have hB := below_then (a := w) (B := w.heap.size) (by go_grown) (by simp; omega) hb1
  have HB := hidden hB
  have HZ := hidden hz
  obtain ⟨c0, c1, _, _⟩ := ha.facts
  obtain ⟨d0, d1, f0, f1⟩ := hz.facts
  clear hz ha hB hb1
  go_wp2
  all_goals exact ret_pair_tmp (t := 34) Try.results25 rfl rfl rfl (HZ.out.stored _ _) Try.underlying34 (by kernel_rfl) ⟨by rw [← HM.out]; (first | exact moved_eq (V1 (by omega)).out | exact moved_eq (V2 (by omega) (by omega)).out | exact moved_eq (V3 (by omega) (by omega)).out), below_two HB.out _ (by omega) _ _⟩
set_option maxHeartbeats 1000000 in
theorem move_no1 (a b at' cut put : Int) (w : World) (q : ¬ (0 ≤ a ∧ a ≤ b ∧ b ≤ 1099511627776 ∧ 0 ≤ at' ∧ at' ≤ 1099511627776 ∧ 0 ≤ cut ∧ cut ≤ 1099511627776 ∧ 0 ≤ put ∧ put ≤ 1099511627776)) (hr : rightV a b 1099511627776 = false) :
    Calls Try.prog 25 #[.agg #[.int .i64 a, .int .i64 b], .int .i64 at', .int .i64 cut, .int .i64 put] w fun e w' => e = moved (moveV a b at' cut put) ∧ Below w.heap.size w w' := by
  have HR := hidden hr
  have V0 := hidden (moveV_out q)
  clear q hr
  generalize hR : moved (moveV a b at' cut put) = R
  have HM := hidden hR
  clear hR
  go_enter Try.func25, Try.ntmps25
  go_wp2_with fail
  refine (right_calls a b _ _).mono ?_
  rintro e w1 ⟨rfl, hb1⟩
  rw [HR.out]
  have hz := ((PairAt.made (t := 34) (w := w.alloc (.cells #[.int .i64 a, .int .i64 b] 34)) (a := 0) (b := 0) (B := w.heap.size + 1) (by simp)).below hb1)
  have ha := (((PairAt.new 34 w a b).alloc (.cells #[.int .i64 0, .int .i64 0] 34)).below hb1)
  have hB := below_then (a := w) (B := w.heap.size) (by go_grown) (by simp; omega) hb1
  have HB := hidden hB
  have HZ := hidden hz
  obtain ⟨c0, c1, _, _⟩ := ha.facts
  obtain ⟨d0, d1, f0, f1⟩ := hz.facts
  clear hz ha hB hb1
  go_wp2
  all_goals exact ret_pair_tmp (t := 34) Try.results25 rfl rfl rfl (HZ.out.stored _ _) Try.underlying34 (by kernel_rfl) ⟨by rw [← HM.out]; exact moved_eq V0.out, below_two HB.out _ (by omega) _ _⟩
set_option maxHeartbeats 1000000 in
theorem move_no2 (a b at' cut put : Int) (w : World) (q : ¬ (0 ≤ a ∧ a ≤ b ∧ b ≤ 1099511627776 ∧ 0 ≤ at' ∧ at' ≤ 1099511627776 ∧ 0 ≤ cut ∧ cut ≤ 1099511627776 ∧ 0 ≤ put ∧ put ≤ 1099511627776)) (hr : rightV a b 1099511627776 = true) :
    Calls Try.prog 25 #[.agg #[.int .i64 a, .int .i64 b], .int .i64 at', .int .i64 cut, .int .i64 put] w fun e w' => e = moved (moveV a b at' cut put) ∧ Below w.heap.size w w' := by
  have V0 := hidden (moveV_out q)
  obtain ⟨m, hm, hm0⟩ := min3 at' cut put
  obtain ⟨n, hn, hn0⟩ := max3 at' cut put
  have hmn : m < 0 ∨ (0 ≤ m ∧ 1099511627776 < n) := by
    have : 0 ≤ a ∧ a ≤ b ∧ b ≤ 1099511627776 := by simpa [rightV] using hr
    omega
  have HR := hidden hr
  clear q hr hm0 hn0
  generalize hR : moved (moveV a b at' cut put) = R
  have HM := hidden hR
  clear hR
  rcases hmn with h0 | ⟨h0, h1⟩
  all_goals
    go_enter Try.func25, Try.ntmps25
    go_wp2_with fail
    refine (right_calls a b _ _).mono ?_
    rintro e w1 ⟨rfl, hb1⟩
    rw [HR.out]
    have hz := ((PairAt.made (t := 34) (w := w.alloc (.cells #[.int .i64 a, .int .i64 b] 34)) (a := 0) (b := 0) (B := w.heap.size + 1) (by simp)).below hb1)
    have ha := (((PairAt.new 34 w a b).alloc (.cells #[.int .i64 0, .int .i64 0] 34)).below hb1)
    have hB := below_then (a := w) (B := w.heap.size) (by go_grown) (by simp; omega) hb1
    have HB := hidden hB
    have HZ := hidden hz
    obtain ⟨c0, c1, _, _⟩ := ha.facts
    obtain ⟨d0, d1, f0, f1⟩ := hz.facts
    clear hz ha hB hb1
    go_wp2
    exact ret_pair_tmp (t := 34) Try.results25 rfl rfl rfl (HZ.out.stored _ _) Try.underlying34 (by kernel_rfl) ⟨by rw [← HM.out]; exact moved_eq V0.out, below_two HB.out _ (by omega) _ _⟩
set_option maxHeartbeats 1000000 in
theorem rmove_yes (a b at' cut put : Int) (w : World) (q : 0 ≤ a ∧ a ≤ b ∧ b ≤ 1099511627776 ∧ 0 ≤ at' ∧ at' ≤ 1099511627776 ∧ 0 ≤ cut ∧ cut ≤ 1099511627776 ∧ 0 ≤ put ∧ put ≤ 1099511627776) :
    Calls Try.prog 26 #[.agg #[.int .i64 a, .int .i64 b], .int .i64 at', .int .i64 cut, .int .i64 put] w fun e w' => e = moved (moveV a b at' cut put) ∧ Below w.heap.size w w' := by
  have HR := hidden (show rightV a b 1099511627776 = true by unfold rightV; simp; omega)
  have V1 := fun h => hidden (moveV_same q h)
  have V2 := fun h h' => hidden (moveV_on q h h')
  have V3 := fun h h' => hidden (moveV_lost q h h')
  obtain ⟨r1, r2, r3, q1, q2, q3, q4, q5, q6⟩ := q
  generalize hR : moved (moveV a b at' cut put) = R
  have HM := hidden hR
  clear hR
  go_enter Try.func26, Try.ntmps26
  go_wp2_with fail
  refine (rright_calls a b _ _).mono ?_
  rintro e w1 ⟨rfl, hb1⟩
  rw [HR.out]
  have hz := ((PairAt.made (t := 34) (w := w.alloc (.cells #[.int .i64 a, .int .i64 b] 34)) (a := 0) (b := 0) (B := w.heap.size + 1) (by simp)).below hb1)
  have ha := (((PairAt.new 34 w a b).alloc (.cells #[.int .i64 0, .int .i64 0] 34)).below hb1)
  have hB := below_then (a := w) (B := w.heap.size) (by go_grown) (by simp; omega) hb1
  have HB := hidden hB
  have HZ := hidden hz
  obtain ⟨c0, c1, _, _⟩ := ha.facts
  obtain ⟨d0, d1, f0, f1⟩ := hz.facts
  clear hz ha hB hb1
  go_wp2
  all_goals exact ret_pair_tmp (t := 34) Try.results26 rfl rfl rfl (HZ.out.stored _ _) Try.underlying34 (by kernel_rfl) ⟨by rw [← HM.out]; (first | exact moved_eq (V1 (by omega)).out | exact moved_eq (V2 (by omega) (by omega)).out | exact moved_eq (V3 (by omega) (by omega)).out), below_two HB.out _ (by omega) _ _⟩
set_option maxHeartbeats 1000000 in
theorem rmove_no1 (a b at' cut put : Int) (w : World) (q : ¬ (0 ≤ a ∧ a ≤ b ∧ b ≤ 1099511627776 ∧ 0 ≤ at' ∧ at' ≤ 1099511627776 ∧ 0 ≤ cut ∧ cut ≤ 1099511627776 ∧ 0 ≤ put ∧ put ≤ 1099511627776)) (hr : rightV a b 1099511627776 = false) :
    Calls Try.prog 26 #[.agg #[.int .i64 a, .int .i64 b], .int .i64 at', .int .i64 cut, .int .i64 put] w fun e w' => e = moved (moveV a b at' cut put) ∧ Below w.heap.size w w' := by
  have HR := hidden hr
  have V0 := hidden (moveV_out q)
  clear q hr
  generalize hR : moved (moveV a b at' cut put) = R
  have HM := hidden hR
  clear hR
  go_enter Try.func26, Try.ntmps26
  go_wp2_with fail
  refine (rright_calls a b _ _).mono ?_
  rintro e w1 ⟨rfl, hb1⟩
  rw [HR.out]
  have hz := ((PairAt.made (t := 34) (w := w.alloc (.cells #[.int .i64 a, .int .i64 b] 34)) (a := 0) (b := 0) (B := w.heap.size + 1) (by simp)).below hb1)
  have ha := (((PairAt.new 34 w a b).alloc (.cells #[.int .i64 0, .int .i64 0] 34)).below hb1)
  have hB := below_then (a := w) (B := w.heap.size) (by go_grown) (by simp; omega) hb1
  have HB := hidden hB
  have HZ := hidden hz
  obtain ⟨c0, c1, _, _⟩ := ha.facts
  obtain ⟨d0, d1, f0, f1⟩ := hz.facts
  clear hz ha hB hb1
  go_wp2
  all_goals exact ret_pair_tmp (t := 34) Try.results26 rfl rfl rfl (HZ.out.stored _ _) Try.underlying34 (by kernel_rfl) ⟨by rw [← HM.out]; exact moved_eq V0.out, below_two HB.out _ (by omega) _ _⟩
set_option maxHeartbeats 1000000 in
theorem rmove_no2 (a b at' cut put : Int) (w : World) (q : ¬ (0 ≤ a ∧ a ≤ b ∧ b ≤ 1099511627776 ∧ 0 ≤ at' ∧ at' ≤ 1099511627776 ∧ 0 ≤ cut ∧ cut ≤ 1099511627776 ∧ 0 ≤ put ∧ put ≤ 1099511627776)) (hr : rightV a b 1099511627776 = true) :
    Calls Try.prog 26 #[.agg #[.int .i64 a, .int .i64 b], .int .i64 at', .int .i64 cut, .int .i64 put] w fun e w' => e = moved (moveV a b at' cut put) ∧ Below w.heap.size w w' := by
  have V0 := hidden (moveV_out q)
  have hmn : at' < 0 ∨ 1099511627776 < at' ∨ cut < 0 ∨ 1099511627776 < cut ∨ put < 0 ∨ 1099511627776 < put := by
    have : 0 ≤ a ∧ a ≤ b ∧ b ≤ 1099511627776 := by simpa [rightV] using hr
    omega
  have HR := hidden hr
  have HN := hidden hmn
  clear q hr hmn
  generalize hR : moved (moveV a b at' cut put) = R
  have HM := hidden hR
  clear hR
  go_enter Try.func26, Try.ntmps26
  go_wp2_with fail
  refine (rright_calls a b _ _).mono ?_
  rintro e w1 ⟨rfl, hb1⟩
  rw [HR.out]
  have hz := ((PairAt.made (t := 34) (w := w.alloc (.cells #[.int .i64 a, .int .i64 b] 34)) (a := 0) (b := 0) (B := w.heap.size + 1) (by simp)).below hb1)
  have ha := (((PairAt.new 34 w a b).alloc (.cells #[.int .i64 0, .int .i64 0] 34)).below hb1)
  have hB := below_then (a := w) (B := w.heap.size) (by go_grown) (by simp; omega) hb1
  have HB := hidden hB
  have HZ := hidden hz
  obtain ⟨c0, c1, _, _⟩ := ha.facts
  obtain ⟨d0, d1, f0, f1⟩ := hz.facts
  clear hz ha hB hb1
  go_wp2
  all_goals first
    | exact ret_pair_tmp (t := 34) Try.results26 rfl rfl rfl (HZ.out.stored _ _) Try.underlying34 (by kernel_rfl) ⟨by rw [← HM.out]; exact moved_eq V0.out, below_two HB.out _ (by omega) _ _⟩
    | (exfalso; have := HN.out; omega)
theorem right_true (a b n : Int) : rightV a b n = true ∨ rightV a b n = false := by cases rightV a b n <;> simp
theorem move_calls (a b at' cut put : Int) (w : World) :
    Calls Try.prog 25 #[.agg #[.int .i64 a, .int .i64 b], .int .i64 at', .int .i64 cut, .int .i64 put] w fun e w' => e = moved (moveV a b at' cut put) ∧ Below w.heap.size w w' := by
  by_cases q : 0 ≤ a ∧ a ≤ b ∧ b ≤ 1099511627776 ∧ 0 ≤ at' ∧ at' ≤ 1099511627776 ∧ 0 ≤ cut ∧ cut ≤ 1099511627776 ∧ 0 ≤ put ∧ put ≤ 1099511627776
  · exact move_yes a b at' cut put w q
  · rcases right_true a b 1099511627776 with hr | hr
    · exact move_no2 a b at' cut put w q hr
    · exact move_no1 a b at' cut put w q hr
theorem rmove_calls (a b at' cut put : Int) (w : World) :
    Calls Try.prog 26 #[.agg #[.int .i64 a, .int .i64 b], .int .i64 at', .int .i64 cut, .int .i64 put] w fun e w' => e = moved (moveV a b at' cut put) ∧ Below w.heap.size w w' := by
  by_cases q : 0 ≤ a ∧ a ≤ b ∧ b ≤ 1099511627776 ∧ 0 ≤ at' ∧ at' ≤ 1099511627776 ∧ 0 ≤ cut ∧ cut ≤ 1099511627776 ∧ 0 ≤ put ∧ put ≤ 1099511627776
  · exact rmove_yes a b at' cut put w q
  · rcases right_true a b 1099511627776 with hr | hr
    · exact rmove_no2 a b at' cut put w q hr
    · exact rmove_no1 a b at' cut put w q hr
end Go.Proofs.Ytekpbhfbojijiaa
