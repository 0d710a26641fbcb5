/- Rows of texts that a call has made; the reference's Same. -/
import Derived.Test.YtjkjbibfaekklaaTexts
import Derived.Test.YtjkjbibfaekklaaWordMath
namespace Go.Proofs.Ytjkjbibfaekklaa
open Go.RowKit

theorem infoStr : (Try.prog.info? 9).map (fun i => (i.zero, i.size, i.bytes)) = some (some (.string ⟨#[]⟩), 1, 16) := by kernel_rfl
/-- slice value v owns the texts ss, in a block from base on -/
def RowT (w : World) (base : Nat) (v : Value) (ss : List ByteArray) : Prop := w.ownsRow base 9 1 v ss.length (ss.map Value.string)
/-- slice value v reads as the texts ss, in a block from base on -/
def Reads (w : World) (base : Nat) (v : Value) (ss : List ByteArray) : Prop := ∃ a cap, v = .slice a ss.length cap ∧ ss.length ≤ cap ∧ cap ≤ maxLen ∧ Strs (fun b => base ≤ b ∧ b < w.heap.size) w a ss.length ss
theorem RowT.reads {w : World} {base : Nat} {v : Value} {ss : List ByteArray} (h : RowT w base v ss) : Reads w base v ss := by
  obtain ⟨_, ⟨rfl, h1⟩ | ⟨g, cap, cur, rfl, hb, hg, h1, h2, h3, h4⟩⟩ := h
  · exact ⟨none, 0, by rw [h1], by omega, by decide, rfl, fun h => by omega⟩
  · refine ⟨some ⟨g, 0, none⟩, cap, rfl, h1, h2, rfl, fun _ => ⟨g, 0, rfl, ⟨hb, (Array.getElem?_eq_some_iff.1 hg).1⟩, fun i hi => ?_⟩⟩
    rw [Nat.zero_add, cell_of_row w g i _ _ _ hg]
    have e : (cur.toList.take (ss.length * 1))[i]? = (ss.map Value.string)[i]? := by rw [h4]
    rw [Nat.mul_one, List.getElem?_take, if_pos hi, Array.getElem?_toList] at e
    rw [e]
    simp [List.getD_eq_getElem?_getD, hi]
theorem Reads.kept {w w' : World} {base : Nat} {v : Value} {ss : List ByteArray} (h : Reads w base v ss) (hb : Below w.heap.size w w') : Reads w' base v ss := by
  obtain ⟨a, cap, rfl, h1, h2, hS⟩ := h
  exact ⟨a, cap, rfl, h1, h2, hS.below fun b hb' => ⟨⟨hb'.1, by have := hb.size; omega⟩, hb.block b hb'.2⟩⟩
theorem Reads.lower {w : World} {base base' : Nat} {v : Value} {ss : List ByteArray} (h : Reads w base v ss) (hb : base' ≤ base) : Reads w base' v ss := by
  obtain ⟨a, cap, rfl, h1, h2, hS⟩ := h
  exact ⟨a, cap, rfl, h1, h2, hS.below fun b hb' => ⟨⟨by omega, hb'.2⟩, rfl⟩⟩
theorem RowT.more {w : World} {base : Nat} {v : Value} {ss : List ByteArray} {s : ByteArray} (h : w.ownsRow base 9 1 v (ss.length + 1) (ss.map Value.string ++ [.string s])) : RowT w base v (ss ++ [s]) := by
  unfold RowT
  rw [List.map_append, List.length_append]
  exact h
theorem RowT.nil (w : World) (base : Nat) : RowT w base (.slice none 0 0) [] := World.ownsRow_nil _ _ _ _
theorem RowT.below {w w' : World} {base : Nat} {v : Value} {ss : List ByteArray} (h : RowT w base v ss) (hb : Below w.heap.size w w') : RowT w' base v ss := by
  refine ⟨h.1, ?_⟩
  rcases h.2 with hn | ⟨g, cap, cur, rfl, hb', hgg, rest⟩
  · exact .inl hn
  · exact .inr ⟨g, cap, cur, rfl, hb', by rw [hb.block g (Array.getElem?_eq_some_iff.1 hgg).1]; exact hgg, rest⟩

open Classical in
noncomputable def sameB (a b : List ByteArray) : Bool := decide (a = b)
theorem same_yes' (a : List ByteArray) : sameB a a = true := by simp [sameB]
theorem same_no' {a b : List ByteArray} (h : a ≠ b) : sameB a b = false := by simp [sameB, h]
theorem take_eq {a b : List ByteArray} (h : a.length = b.length) (k : Nat) (hk : k < a.length) (h2 : a.take k = b.take k) :
    (a.getD k ByteArray.empty = b.getD k ByteArray.empty → a.take (k + 1) = b.take (k + 1)) ∧ (a.getD k ByteArray.empty ≠ b.getD k ByteArray.empty → a ≠ b) := by
  refine ⟨fun e => ?_, fun e e' => e (by rw [e'])⟩
  rw [take_more a k hk, take_more b k (by omega), h2, e]
set_option maxHeartbeats 1000000 in
theorem same_calls {C C' : Nat → Prop} (a a' : Option Addr) (n n' cap cap' : Nat) (ss tt : List ByteArray) (w : World) (hl : n ≤ cap) (hcap : cap ≤ maxLen) (hS : Strs C w a n ss) (hlC : ∀ b, C b → b < w.heap.size) (hl' : n' ≤ cap') (_ : cap' ≤ maxLen) (hT : Strs C' w a' n' tt) (hlC' : ∀ b, C' b → b < w.heap.size) :
    Calls Try.prog 16 #[.slice a n cap, .slice a' n' cap'] w fun e w' => e = .returned (.bool (sameB ss tt)) ∧ Below w.heap.size w w' := by
  unfold maxLen at hcap
  have HS := hidden hS
  have HT := hidden hT
  clear hS hT
  by_cases hn : n = n'
  · subst hn
    go_enter Try.func16, Try.ntmps16
    go_wp2
    go_loopw [5] (fun i wr => ∃ k : Nat, k ≤ n ∧ i = .int .i64 k ∧ ss.take k = tt.take k ∧ Below w.heap.size w wr) (fun i _ => n - (intOf i).toNat)
    case atStart => exact ⟨0, by omega, rfl, rfl, Below.refl _ _⟩
    case round =>
      obtain ⟨k, hk, rfl, hf, hb⟩ := hrel
      have HB := hidden hb
      by_cases hlt : k < n
      · obtain ⟨b, off, rfl, hC, hc⟩ := HS.out.2 (by omega)
        obtain ⟨b', off', rfl, hC', hc'⟩ := HT.out.2 (by omega)
        have hck : wr.cell? ⟨b, off + k, none⟩ = some (.string (ss.getD k ByteArray.empty)) := (hb.cell (p := ⟨b, off + k, none⟩) (hlC b hC)).trans (hc k hlt)
        have hck' : wr.cell? ⟨b', off' + k, none⟩ = some (.string (tt.getD k ByteArray.empty)) := (hb.cell (p := ⟨b', off' + k, none⟩) (hlC' b' hC')).trans (hc' k hlt)
        have H1 := hidden (take_eq (HS.out.1.trans HT.out.1.symm) k (by rw [HS.out.1]; exact hlt) hf)
        clear hc hc' hb hf
        by_cases he : ss.getD k ByteArray.empty = tt.getD k ByteArray.empty
        · have H2 := hidden (H1.out.1 he)
          rw [← he] at hck'
          clear he H1
          generalize ss.getD k ByteArray.empty = x at hck hck'
          go_wp2
          go_quiet (fail)
          go_wp2
          go_roundw
          case rel => exact ⟨k + 1, by omega, by go_num, H2.out, below_drawn HB.out _⟩
          case measure => simp [intOf]; omega
        · have H2 := hidden (same_no' (H1.out.2 he))
          have ht : (!((ss.getD k ByteArray.empty).toList == (tt.getD k ByteArray.empty).toList)) = true := by rw [text_other he]; rfl
          have ht' : ((ss.getD k ByteArray.empty).toList == (tt.getD k ByteArray.empty).toList) = false := text_other he
          clear he H1
          generalize ss.getD k ByteArray.empty = x at hck ht ht'
          generalize tt.getD k ByteArray.empty = y at hck' ht ht'
          go_wp2
          go_quiet (fail)
          go_wp2
          go_ret
          exact ⟨ret_b H2.out.symm, below_drawn HB.out _⟩
      · obtain rfl : k = n := by omega
        rw [List.take_of_length_le (by rw [HS.out.1]; omega), List.take_of_length_le (by rw [HT.out.1]; omega)] at hf
        have H2 : Hid (sameB ss tt = true) := hidden (by rw [hf]; exact same_yes' _)
        clear hf
        go_wp2
        go_ret
        exact ⟨ret_b H2.out.symm, hb⟩
  · have H2 : Hid (sameB ss tt = false) := hidden (same_no' (fun e => hn (by rw [← HS.out.1, ← HT.out.1, e])))
    have hn' : ((n : Int) == n') = false := by simp; omega
    have hn'' : (!((n : Int) == n')) = true := by rw [hn']; rfl
    go_enter Try.func16, Try.ntmps16
    go_wp2
    go_ret
    exact ⟨ret_b H2.out.symm, Below.refl _ _⟩
/-- two slices of texts that read as lists -/
theorem same_reads {B B' : Nat} {v v' : Value} {ss tt : List ByteArray} {w : World} (h : Reads w B v ss) (h' : Reads w B' v' tt) :
    Calls Try.prog 16 #[v, v'] w fun e w' => e = .returned (.bool (sameB ss tt)) ∧ Below w.heap.size w w' := by
  obtain ⟨a, cap, rfl, h1, h2, hS⟩ := h
  obtain ⟨a', cap', rfl, h1', h2', hT⟩ := h'
  exact same_calls _ _ _ _ _ _ _ _ _ h1 h2 hS (fun b hb => hb.2) h1' h2' hT (fun b hb => hb.2)
end Go.Proofs.Ytjkjbibfaekklaa
