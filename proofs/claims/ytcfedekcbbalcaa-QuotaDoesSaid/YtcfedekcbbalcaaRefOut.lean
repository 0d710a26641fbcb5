/- Contracts of the document's answer for layer 4: New, Put, Pad and Cut over a room and a text. -/
import Derived.Test.YtcfedekcbbalcaaOutKnows
import Derived.Test.YtcfedekcbbalcaaTwo
namespace Go.Proofs.Ytcfedekcbbalcaa
open Go.RowKit Go.Lib

/-- a room and a text, and a number -/
def refR (r : Nat) (s : ByteArray) (e : Int) : Ending := .returned (.tuple #[.agg #[.int .i64 r, .string s], .int .i64 e])
theorem size28 : (Try.prog.info? 28).map (·.size) = some 2 := by kernel_rfl
theorem rnew_low (n : Int) (w : World) (h : n < 0 ∨ 1073741824 < n) : Calls Try.prog 7 #[.int .i64 n] w fun e w' => e = refR 0 ByteArray.empty 2 ∧ Below w.heap.size w w' := by
  go_enter Try.func7, Try.ntmps7
  go_wp2
  all_goals first
    | (exfalso; omega)
    | exact ret_two_tmp (t := 28) Try.results7 rfl rfl rfl (TwoAt.made (by simp)) Try.underlying28 size28 ⟨rfl, by go_grown⟩
theorem rnew_calls (r : Nat) (w : World) (h : r ≤ 1073741824) : Calls Try.prog 7 #[.int .i64 r] w fun e w' => e = refR r ByteArray.empty 0 ∧ Below w.heap.size w w' := by
  go_enter Try.func7, Try.ntmps7
  go_wp2
  all_goals first
    | (exfalso; omega)
    | exact ret_two_tmp (t := 28) Try.results7 rfl rfl rfl (TwoAt.made (by simp)) Try.underlying28 size28 ⟨rfl, by go_grown⟩

theorem rcut_low (r : Nat) (s : ByteArray) (n : Int) (w : World) (h : n < 0 ∨ (s.size : Int) < n) : Calls Try.prog 15 #[.agg #[.int .i64 r, .string s], .int .i64 n] w fun e w' => e = refR r s 2 ∧ Below w.heap.size w w' := by
  go_enter Try.func15, Try.ntmps15
  go_wp2
  all_goals first
    | (exfalso; omega)
    | exact ret_two_tmp (t := 28) Try.results15 rfl rfl rfl (TwoAt.made (by simp)) Try.underlying28 size28 ⟨rfl, by go_grown⟩
theorem rcut_calls (r : Nat) (s : ByteArray) (n : Nat) (w : World) (hs : s.size ≤ 1073741824) (h : n ≤ s.size) : Calls Try.prog 15 #[.agg #[.int .i64 r, .string s], .int .i64 n] w fun e w' => e = refR r (s.extract 0 n) 0 ∧ Below w.heap.size w w' := by
  have hd : decide ((n : Int) < 0) = false := by simp
  have hd2 : decide ((s.size : Int) < n) = false := by simp; omega
  have hd3 : decide (s.size < n) = false := by simp; omega
  go_enter Try.func15, Try.ntmps15
  go_wp2
  all_goals first
    | exact ret_two_tmp (t := 28) Try.results15 rfl rfl rfl (TwoAt.made (by simp)) Try.underlying28 size28 ⟨rfl, by go_grown⟩
    | (trace_state; sorry)

theorem rpad_low (r : Nat) (s : ByteArray) (n c : Int) (w : World) (hs : s.size ≤ r) (hr : r ≤ 1073741824) (h : n < 0) : Calls Try.prog 13 #[.agg #[.int .i64 r, .string s], .int .i64 n, .int .u8 c] w fun e w' => e = refR r s 2 ∧ Below w.heap.size w w' := by
  have hd : decide (n < 0) = true := by simp; omega
  go_enter Try.func13, Try.ntmps13
  go_wp2
  all_goals first
    | exact ret_two_tmp (t := 28) Try.results13 rfl rfl rfl (TwoAt.made (by simp)) Try.underlying28 size28 ⟨rfl, by go_grown⟩
    | (trace_state; sorry)
theorem rpad_high (r : Nat) (s : ByteArray) (n c : Int) (w : World) (hs : s.size ≤ r) (hr : r ≤ 1073741824) (h : (r : Int) < s.size + n) : Calls Try.prog 13 #[.agg #[.int .i64 r, .string s], .int .i64 n, .int .u8 c] w fun e w' => e = refR r s 6 ∧ Below w.heap.size w w' := by
  have hd : decide (n < 0) = false := by simp; omega
  have hd2 : decide ((r : Int) - s.size < n) = true := by simp; omega
  go_enter Try.func13, Try.ntmps13
  go_wp2
  all_goals first
    | exact ret_two_tmp (t := 28) Try.results13 rfl rfl rfl (TwoAt.made (by simp)) Try.underlying28 size28 ⟨rfl, by go_grown⟩
    | (trace_state; sorry)
theorem one_text (w : World) (d : Int) : (convert 52 9 (.slice (some ⟨w.heap.size, 0, none⟩) 1 1)).run Try.prog (w.alloc (.cells #[.int .u8 d] 5)) = .ok (.string (strOfNums [d])) (w.alloc (.cells #[.int .u8 d] 5)) :=
  run_convert_bytes_arg _ 52 5 Try.underlying52 Try.underlying5 w.heap.size 0 1 1 [d] rfl (by
    intro i hi
    match i, hi with
    | 0, _ => simp) 9 Try.underlying9
set_option maxHeartbeats 1000000 in
set_option maxRecDepth 100000 in
theorem rpad_calls (r : Nat) (s : ByteArray) (n : Nat) (c : Int) (w : World) (hr : r ≤ 1073741824) (h : s.size + n ≤ r) : Calls Try.prog 13 #[.agg #[.int .i64 r, .string s], .int .i64 n, .int .u8 c] w fun e w' => e = refR r (s ++ rep n c) 0 ∧ Below w.heap.size w w' := by
  have hd : decide ((n : Int) < 0) = false := by simp
  have hd2 : decide ((r : Int) - s.size < n) = false := by simp; omega
  go_enter Try.func13, Try.ntmps13
  go_wp2
  go_loopw [8] (fun i wr => ∃ k : Nat, k ≤ n ∧ i = .int .i64 k ∧ TwoAt 28 wr w.heap.size (.int .i64 r) (.string (s ++ rep k c)) ∧ TwoAt 28 wr (w.heap.size + 1) (.int .i64 0) (.string ByteArray.empty) ∧ Below w.heap.size w wr) (fun i _ => n - (intOf i).toNat)
  case atStart =>
    refine ⟨0, by omega, rfl, ?_, TwoAt.made (by simp), by go_grown⟩
    rw [rep_zero, bytes_nil]
    exact (TwoAt.new _ _ _ _).alloc _
  case round =>
    obtain ⟨k, hk, rfl, h1, h2, hb⟩ := hrel
    have htx := one_text wr c
    have hz : (s ++ rep k c).size ≤ 1073741824 := by rw [ByteArray.size_append, rep_size]; omega
    have hz1 : (strOfNums [c]).size ≤ 1 := by rw [strOfNums_size]; simp
    have he := hidden (show s ++ rep k c ++ strOfNums [c] = s ++ rep (k + 1) c by rw [rep_succ, bytes_assoc])
    have H1 := hidden h1
    have H2 := hidden h2
    have HB := hidden hb
    have hlt1 := h1.lt
    have hlt2 := h2.lt
    by_cases hlt : k < n
    · have hlk : decide ((k : Int) < n) = true := by simp; omega
      have c1 := h1.cell1
      have c1' := (h1.alloc (.cells #[.int .u8 c] 5)).cell1
      have f1' := (h1.alloc (.cells #[.int .u8 c] 5)).frozen1
      clear h1 h2 hb
      generalize s ++ rep k c = J at *
      go_wp2
      go_roundw
      case rel =>
        refine ⟨k + 1, by omega, by go_num, ?_, (H2.out.other (by omega) _).alloc _, (HB.out.setCell (by simp) _).alloc (by simp; omega) _⟩
        rw [← he.out]
        exact (H1.out.stored1 _).alloc _
      case measure => simp [intOf]; omega
    · have hlk : decide ((k : Int) < n) = false := by simp; omega
      have c0 := h1.cell0
      have c1 := h1.cell1
      have d0 := h2.cell0
      have d1 := h2.cell1
      have f0 := h2.frozen0
      have f1 := h2.frozen1
      obtain rfl : k = n := by omega
      clear h1 h2 hb
      go_wp2
      exact ret_two_tmp (t := 28) Try.results13 rfl rfl rfl (H2.out.stored _ _) Try.underlying28 size28 ⟨rfl, (HB.out.setCell (by simp) _).setCell (by simp) _⟩
set_option maxHeartbeats 1000000 in
set_option maxRecDepth 100000 in
theorem rput_calls (r : Nat) (s : ByteArray) (a : Option Addr) (len cap : Nat) (ss : List ByteArray) (w : World) (hl : len ≤ cap) (hcap : cap ≤ maxLen) (hs : Strs (fun b => b < w.heap.size) w a len ss) (hsz : s.size ≤ 1073741824) (ht : total ss ≤ 1048576) :
    ∃ (e : Int) (s' : ByteArray), (if s.size + total ss ≤ r then e = 0 ∧ s' = s ++ joinB ss else e = 6 ∧ s' = s) ∧
      Calls Try.prog 11 #[.agg #[.int .i64 r, .string s], .slice a len cap] w fun e' w' => e' = refR r s' e ∧ Below w.heap.size w w' := by
  obtain ⟨e, s', hE⟩ : ∃ (e : Int) (s' : ByteArray), (if s.size + total ss ≤ r then e = 0 ∧ s' = s ++ joinB ss else e = 6 ∧ s' = s) := by
    by_cases h : s.size + total ss ≤ r
    · exact ⟨0, _, by rw [if_pos h]; exact ⟨rfl, rfl⟩⟩
    · exact ⟨6, _, by rw [if_neg h]; exact ⟨rfl, rfl⟩⟩
  refine ⟨e, s', hE, ?_⟩
  have HE := hidden hE
  have HS := hidden hs
  have hmax : cap ≤ 9223372036854775807 := hcap
  have H0 := hidden (rfl : w.heap.size = w.heap.size)
  clear hE hs hcap
  go_enter Try.func11, Try.ntmps11
  go_wp2
  have h1 : TwoAt 28 ((w.alloc (.cells #[.int .i64 r, .string s] 28)).alloc (.cells #[.int .i64 0, .string ⟨#[]⟩] 28)) w.heap.size (.int .i64 r) (.string s) := (TwoAt.new _ _ _ _).alloc _
  have h2 : TwoAt 28 ((w.alloc (.cells #[.int .i64 r, .string s] 28)).alloc (.cells #[.int .i64 0, .string ⟨#[]⟩] 28)) (w.heap.size + 1) (.int .i64 0) (.string ⟨#[]⟩) := TwoAt.made (by simp)
  have H1 := hidden h1
  have H2 := hidden h2
  have HB := hidden (show Below w.heap.size w ((w.alloc (.cells #[.int .i64 r, .string s] 28)).alloc (.cells #[.int .i64 0, .string ⟨#[]⟩] 28)) by go_grown)
  clear h1 h2
  go_loop [6, 7] (fun x i => ∃ k : Nat, k ≤ len ∧ i = .int .i64 k ∧ x = .string (s ++ joinB (ss.take k))) (fun _ i => len - (intOf i).toNat)
  case atStart => exact ⟨0, by omega, rfl, by rw [List.take_zero, joinB, bytes_nil]⟩
  case round =>
    obtain ⟨k, hk, rfl, rfl⟩ := hrel
    have hz : (s ++ joinB (ss.take k)).size ≤ 1074790400 := by
      rw [ByteArray.size_append, joinB_size]
      have := total_le ss k
      omega
    by_cases hlt : k < len
    · obtain ⟨b, off, rfl, hbl, hcs⟩ := HS.out.2 (by omega)
      have hck := (HB.out.cell (p := ⟨b, off + k, none⟩) hbl).trans (hcs k hlt)
      have hj := hidden (joinB_take ss k (by rw [HS.out.1]; exact hlt))
      have hq : (ss.getD k ByteArray.empty).size ≤ 1048576 := by
        have h1 := total_take ss k (by rw [HS.out.1]; exact hlt)
        have h2 := total_le ss (k + 1)
        omega
      have he := hidden (show s ++ joinB (ss.take k) ++ ss.getD k ByteArray.empty = s ++ joinB (ss.take (k + 1)) by rw [hj.out, bytes_assoc])
      have hlk : decide ((k : Int) < len) = true := by simp; omega
      clear hcs hbl hj
      generalize ss.getD k ByteArray.empty = t at *
      generalize s ++ joinB (ss.take k) = J at *
      go_wp2
      refine ⟨⟨k + 1, by omega, by go_num, by rw [← he.out]⟩, ?_⟩
      simp [intOf]; omega
    · have hlk : decide ((k : Int) < len) = false := by simp; omega
      have hfull : ss.take k = ss := List.take_of_length_le (by rw [HS.out.1]; omega)
      rw [hfull] at hz ⊢
      have hzz : (s ++ joinB ss).size = s.size + total ss := by rw [ByteArray.size_append, joinB_size]
      have c0 := H1.out.cell0
      have c1 := H1.out.cell1
      have f0 := H1.out.frozen0
      have f1 := H1.out.frozen1
      by_cases hq : s.size + total ss ≤ r
      · have hE := HE.out
        rw [if_pos hq] at hE
        obtain ⟨rfl, rfl⟩ := hE
        have hd : decide ((r : Int) < (s ++ joinB ss).size) = false := decide_eq_false (by omega)
        have hd2 : decide (r < (s ++ joinB ss).size) = false := decide_eq_false (by omega)
        clear hzz hq hfull
        obtain ⟨J, hJ⟩ : ∃ J, J = s ++ joinB ss := ⟨_, rfl⟩
        rw [← hJ] at hz hd hd2 ⊢
        have HJ := hidden hJ
        clear hJ
        go_wp2
        exact ret_two_tmp (t := 28) Try.results11 rfl rfl rfl (TwoAt.made (by simp)) Try.underlying28 size28 ⟨by rw [← HJ.out]; rfl, by go_grown⟩
      · have hE := HE.out
        rw [if_neg hq] at hE
        obtain ⟨rfl, rfl⟩ := hE
        have hd : decide ((r : Int) < (s' ++ joinB ss).size) = true := decide_eq_true (by omega)
        have hd2 : decide (r < (s' ++ joinB ss).size) = true := decide_eq_true (by omega)
        clear hzz hq hfull
        generalize s' ++ joinB ss = J at *
        go_wp2
        exact ret_two_tmp (t := 28) Try.results11 rfl rfl rfl (TwoAt.made (by simp)) Try.underlying28 size28 ⟨rfl, by go_grown⟩
end Go.Proofs.Ytcfedekcbbalcaa
