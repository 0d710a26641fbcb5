/- The contract of 'same': an Out that holds what the document's answer holds. -/
import Derived.Test.YtcfedekcbbalcaaRefOut
namespace Go.Proofs.Ytcfedekcbbalcaa
open Go.RowKit Go.Lib

theorem nums_get (s : ByteArray) (n : Nat) (h : n < s.size) : (nums s).getD n 0 = (s[n].toNat : Int) := by
  have h1 := strCells_get s n h
  rw [strCells_byte s n h] at h1
  injection h1 with h1
  injection h1 with _ h1
  exact h1.symm
theorem last_byte {w : World} {B o : Nat} {s : ByteArray} {r : Nat} {v : Value} (h : OutAt w B o s r v) (n : Nat) (hn : s.size = n + 1) (b : Int) (hb : Hid (b = (s[n]'(by omega)).toNat)) :
    Calls Try.prog 18 #[.pointer (some ⟨o, 0, none⟩)] w fun e w' => e = .returned (.tuple #[.int .u8 b, .bool true]) ∧ w = w' := by
  rw [hb.out, ← nums_get s n (by omega)]
  exact last_calls h n hn
set_option maxHeartbeats 1000000 in
theorem same_empty {w : World} {B o : Nat} {s : ByteArray} {r : Nat} {v : Value} (h : OutAt w B o s r v) (h0 : s.size = 0) :
    Calls Try.prog 16 #[.pointer (some ⟨o, 0, none⟩), .agg #[.int .i64 r, .string s]] w fun e w' => e = .returned (.bool true) ∧ Below w.heap.size w w' := by
  obtain rfl : s = ByteArray.empty := by
    apply Go.WideShapes.bytes_inj
    have h1 : s.data.toList.length = 0 := by simpa using h0
    rw [List.length_eq_zero_iff.1 h1]
    rfl
  have hr := h.top
  have h1 := h.alloc (.cells #[.int .i64 r, .string ByteArray.empty] 28)
  have L := hidden (last_empty h1 h0)
  have hT := TwoAt.new 28 w (.int .i64 r) (.string ByteArray.empty)
  have t0 := Later.cell hT.cell0 hT.lt
  have t1 := Later.cell hT.cell1 hT.lt
  have H := hidden (fun p : Later (w.alloc (.cells #[.int .i64 r, .string ByteArray.empty] 28)) => h1.below p.ok)
  have e0 : ((0 : Nat) : Int) = 0 := rfl
  clear h h1 hT
  go_enter Try.func16, Try.ntmps16
  go_wp2_with fail
  refine L.out.mono ?_
  rintro e w' ⟨rfl, rfl⟩
  go_wp2
  refine wp_region_later (by kernel_rfl) (by kernel_rfl) ?_
  repeat (go_big_quiet_step (first
    | (go_at_call 17; exact Later.same (text_calls (H.out _)))
    | (go_at_call 19; exact Later.same (len_calls (H.out _)))
    | (go_at_call 20; exact Later.calls (left_calls (H.out _)))))
  refine wpQuiet_nil ?_
  rintro _ ⟨⟨w1, hb1⟩, rfl⟩
  go_wp2
  go_ret
  exact ⟨rfl, below_then (by go_grown) (by simp) hb1⟩
set_option maxHeartbeats 1000000 in
theorem same_some {w : World} {B o : Nat} {s : ByteArray} {r : Nat} {v : Value} (h : OutAt w B o s r v) (n : Nat) (hn : s.size = n + 1) :
    Calls Try.prog 16 #[.pointer (some ⟨o, 0, none⟩), .agg #[.int .i64 r, .string s]] w fun e w' => e = .returned (.bool true) ∧ Below w.heap.size w w' := by
  have hr := h.top
  have hle := h.le
  have h1 := h.alloc (.cells #[.int .i64 r, .string s] 28)
  obtain ⟨b, hb⟩ : ∃ b : Int, b = (s[n]'(by omega)).toNat := ⟨_, rfl⟩
  have L := hidden (last_byte h1 n hn b (hidden hb))
  have hT := TwoAt.new 28 w (.int .i64 r) (.string s)
  have t0 := Later.cell hT.cell0 hT.lt
  have t1 := Later.cell hT.cell1 hT.lt
  have H := hidden (fun p : Later (w.alloc (.cells #[.int .i64 r, .string s] 28)) => h1.below p.ok)
  have hs := text_same s
  clear h h1 hT
  go_enter Try.func16, Try.ntmps16
  go_wp2_with fail
  refine L.out.mono ?_
  rintro e w' ⟨rfl, rfl⟩
  have e1 : ((n + 1 : Nat) : Int) - 1 = n := by omega
  go_wp2
  refine wp_region_later (by kernel_rfl) (by kernel_rfl) ?_
  repeat (go_big_quiet_step (first
    | (go_at_call 17; exact Later.same (text_calls (H.out _)))
    | (go_at_call 19; exact Later.same (len_calls (H.out _)))
    | (go_at_call 20; exact Later.calls (left_calls (H.out _)))))
  refine wpQuiet_nil ?_
  rintro _ ⟨⟨w1, hb1⟩, rfl⟩
  go_wp2
  go_ret
  exact ⟨rfl, below_then (by go_grown) (by simp) hb1⟩
theorem same_calls {w : World} {B o : Nat} {s : ByteArray} {r : Nat} {v : Value} (h : OutAt w B o s r v) :
    Calls Try.prog 16 #[.pointer (some ⟨o, 0, none⟩), .agg #[.int .i64 r, .string s]] w fun e w' => e = .returned (.bool true) ∧ Below w.heap.size w w' := by
  by_cases h0 : s.size = 0
  · exact same_empty h h0
  · exact same_some h (s.size - 1) (by omega)
end Go.Proofs.Ytcfedekcbbalcaa
