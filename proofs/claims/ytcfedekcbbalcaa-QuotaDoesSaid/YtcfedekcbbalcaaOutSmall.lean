/- Contracts of quota.New and of the methods of an Out that are short: Len, Left, Text, Last, Cut, and what they call. -/
import Derived.Test.YtcfedekcbbalcaaOutBase
namespace Go.Proofs.Ytcfedekcbbalcaa
open Go.RowKit Go.Lib

theorem size_calls {w : World} {B o : Nat} {s : ByteArray} {r : Nat} {v : Value} (h : OutAt w B o s r v) :
    Calls Try.prog 24 #[.pointer (some ⟨o, 0, none⟩)] w fun e w' => e = .returned (.int .i64 s.size) ∧ w = w' := by
  obtain ⟨a, c, rfl, _, _⟩ := h.form
  have h0 := h.cell0
  clear h
  go_enter Try.func24, Try.ntmps24
  go_wp2
  go_ret
  exact ⟨rfl, rfl⟩
theorem rest_calls (r n : Nat) (w : World) (h : n ≤ r) (hr : r ≤ 1073741824) :
    Calls Try.prog 26 #[.agg #[.int .i64 r], .int .i64 n] w fun e w' => e = .returned (.int .i64 ((r : Int) - n)) ∧ Below w.heap.size w w' := by
  go_enter Try.func26, Try.ntmps26
  go_wp2
  go_ret
  exact ⟨rfl, by go_grown⟩

theorem len_none (w : World) : Calls Try.prog 19 #[.pointer none] w fun e w' => e = .returned (.int .i64 0) ∧ w = w' := by
  go_enter Try.func19, Try.ntmps19
  go_wp2
  go_ret
  exact ⟨rfl, rfl⟩
theorem len_calls {w : World} {B o : Nat} {s : ByteArray} {r : Nat} {v : Value} (h : OutAt w B o s r v) :
    Calls Try.prog 19 #[.pointer (some ⟨o, 0, none⟩)] w fun e w' => e = .returned (.int .i64 s.size) ∧ w = w' := by
  go_enter Try.func19, Try.ntmps19
  go_wp2_with fail
  refine (size_calls h).mono ?_
  rintro e w' ⟨rfl, rfl⟩
  go_wp2
  go_ret
  exact ⟨rfl, rfl⟩

theorem left_none (w : World) : Calls Try.prog 20 #[.pointer none] w fun e w' => e = .returned (.int .i64 0) ∧ w = w' := by
  go_enter Try.func20, Try.ntmps20
  go_wp2
  go_ret
  exact ⟨rfl, rfl⟩
theorem left_calls {w : World} {B o : Nat} {s : ByteArray} {r : Nat} {v : Value} (h : OutAt w B o s r v) :
    Calls Try.prog 20 #[.pointer (some ⟨o, 0, none⟩)] w fun e w' => e = .returned (.int .i64 ((r : Int) - s.size)) ∧ Below w.heap.size w w' := by
  have h1 := Later.cell h.cell1 h.lt
  have H := hidden (fun p : Later w => h.below p.ok)
  have hle := h.le
  have htop := h.top
  clear h
  go_enter Try.func20, Try.ntmps20
  go_wp2
  refine wp_region_later (by kernel_rfl) (by kernel_rfl) ?_
  repeat (go_big_quiet_step (first
    | (go_at_call 24; exact Later.same (size_calls (H.out _)))
    | (go_at_call 26; exact Later.calls (rest_calls r s.size _ hle htop))))
  refine wpQuiet_nil ?_
  rintro _ ⟨⟨w1, hb1⟩, rfl⟩
  go_wp2
  go_ret
  exact ⟨rfl, hb1⟩

theorem text_none (w : World) : Calls Try.prog 17 #[.pointer none] w fun e w' => e = .returned (.string ByteArray.empty) ∧ w = w' := by
  go_enter Try.func17, Try.ntmps17
  go_wp2
  go_ret
  exact ⟨rfl, rfl⟩
theorem row_text {w : World} {B : Nat} {s : ByteArray} {a : Option Addr} {c : Nat} (h : w.ownsRow B 5 1 (.slice a s.size c) s.size (strCells s)) :
    (convert 52 9 (.slice a s.size c)).run Try.prog w = .ok (.string s) w := by
  rcases h.2 with ⟨hv, h0⟩ | ⟨g, cap, cur, hv, _⟩
  · obtain rfl : a = none := by injection hv
    rw [run_convert_bytes_nil w 52 5 Try.underlying52 Try.underlying5 _ _ 9 Try.underlying9]
    have : s = ByteArray.empty := by
      apply Go.WideShapes.bytes_inj
      have h1 : s.data.toList.length = 0 := by simpa using h0
      rw [List.length_eq_zero_iff.1 h1]
      rfl
    rw [this]
  · cases hv
    have := run_convert_bytes_arg (P := Try.prog) w 52 5 Try.underlying52 Try.underlying5 g 0 s.size c (nums s) (nums_length s) (fun i hi => by
      rw [Nat.zero_add, h.cellAt i (by omega), strCells_get s i hi]) 9 Try.underlying9
    rw [strOf_nums] at this
    exact this
theorem text_calls {w : World} {B o : Nat} {s : ByteArray} {r : Nat} {v : Value} (h : OutAt w B o s r v) :
    Calls Try.prog 17 #[.pointer (some ⟨o, 0, none⟩)] w fun e w' => e = .returned (.string s) ∧ w = w' := by
  obtain ⟨a, c, rfl, _, _⟩ := h.form
  have h0 := h.cell0
  have ht := row_text h.own
  clear h
  go_enter Try.func17, Try.ntmps17
  go_wp2
  go_ret
  exact ⟨rfl, rfl⟩

theorem last_none (w : World) : Calls Try.prog 18 #[.pointer none] w fun e w' => e = .returned (.tuple #[.int .u8 0, .bool false]) ∧ w = w' := by
  go_enter Try.func18, Try.ntmps18
  go_wp2_with fail
  refine (len_none _).mono ?_
  rintro e w' ⟨rfl, rfl⟩
  go_wp2
  go_ret2
  exact ⟨rfl, rfl⟩
theorem last_empty {w : World} {B o : Nat} {s : ByteArray} {r : Nat} {v : Value} (h : OutAt w B o s r v) (h0 : s.size = 0) :
    Calls Try.prog 18 #[.pointer (some ⟨o, 0, none⟩)] w fun e w' => e = .returned (.tuple #[.int .u8 0, .bool false]) ∧ w = w' := by
  have hl := len_calls h
  rw [h0] at hl
  have HL := hidden hl
  clear hl h
  go_enter Try.func18, Try.ntmps18
  go_wp2_with fail
  refine HL.out.mono ?_
  rintro e w' ⟨rfl, rfl⟩
  go_wp2
  go_ret2
  exact ⟨rfl, rfl⟩
theorem last_calls {w : World} {B o : Nat} {s : ByteArray} {r : Nat} {v : Value} (h : OutAt w B o s r v) (n : Nat) (hn : s.size = n + 1) :
    Calls Try.prog 18 #[.pointer (some ⟨o, 0, none⟩)] w fun e w' => e = .returned (.tuple #[.int .u8 ((nums s).getD n 0), .bool true]) ∧ w = w' := by
  have hl := len_calls h
  obtain ⟨a, c, rfl, hc1, hc2⟩ := h.form
  have h0 := h.cell0
  obtain ⟨g, rfl, hg⟩ : ∃ g, a = some ⟨g, 0, none⟩ ∧ w.cell? ⟨g, n, none⟩ = some (.int .u8 ((nums s).getD n 0)) := by
    rcases h.own.2 with ⟨hv, hz⟩ | ⟨g, cap, cur, hv, _⟩
    · omega
    · cases hv
      exact ⟨g, rfl, by rw [h.own.cellAt n (by omega), strCells_get s n (by omega)]⟩
  have htop := h.top
  have hle := h.le
  rw [hn] at hl h0 hle hc1
  generalize (nums s).getD n 0 = b at *
  have HL := hidden hl
  have HN := hidden hn
  clear hl hn h
  go_enter Try.func18, Try.ntmps18
  go_wp2_with fail
  refine HL.out.mono ?_
  rintro e w' ⟨rfl, rfl⟩
  have e1 : ((n + 1 : Nat) : Int) - 1 = n := by omega
  go_wp2
  go_ret2
  exact ⟨rfl, rfl⟩

theorem new_low (n : Int) (w : World) (h : n < 0 ∨ 1073741824 < n) : Calls Try.prog 6 #[.int .i64 n] w fun e w' => e = .returned (.tuple #[.pointer none, .int .i64 2]) ∧ w = w' := by
  go_enter Try.func6, Try.ntmps6
  go_wp2
  all_goals first
    | (go_ret2; exact ⟨rfl, rfl⟩)
    | (exfalso; omega)
theorem new_calls (r : Nat) (w : World) (h : r ≤ 1073741824) : Calls Try.prog 6 #[.int .i64 r] w fun e w' => e = .returned (.tuple #[.pointer (some ⟨w.heap.size, 0, none⟩), .int .i64 0]) ∧ w' = w.alloc (.cells #[.slice none 0 0, .int .i64 r] 56) := by
  go_enter Try.func6, Try.ntmps6
  go_wp2
  all_goals first
    | (go_ret2; exact ⟨rfl, rfl⟩)
    | (exfalso; omega)
end Go.Proofs.Ytcfedekcbbalcaa
