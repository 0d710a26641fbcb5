/- Contracts of the reference's Lines, Words and Cut. -/
import Derived.Test.YtjkjbibfaekklaaWordCut
import Derived.OwnWalk
namespace Go.Proofs.Ytjkjbibfaekklaa
open Go.RowKit

theorem append_below {w wr w1 : World} {base : Nat} {v : Value} {ss : List ByteArray} {o : Obj} (hb : Below w.heap.size w wr) (hr : RowT wr base v ss) (hn : w.heap.size ≤ base) (hg : (wr.alloc o).grownBy w1 v.ownBlock) : Below w.heap.size w w1 :=
  (hb.alloc hb.size o).grown hg (by have := hb.size; simp; omega) (fun j ej => by have := (World.ownsRow.lt hr j ej).1; omega)
theorem RowT.moreL {w : World} {base : Nat} {v : Value} {outs : List (List UInt8)} {x : List UInt8} (h : w.ownsRow base 9 1 v (outs.length + 1) (outs.map (Value.string ∘ txt) ++ [.string (txt x)])) : RowT w base v ((outs ++ [x]).map txt) := by
  rw [List.map_append]
  refine RowT.more ?_
  rw [List.map_map, List.length_map]
  exact h
theorem take_byte {l : List UInt8} {k : Nat} (h : k < l.length) : l.take (k + 1) = l.take k ++ [l.getD k 0] := by
  rw [List.take_succ_eq_append_getElem h, List.getD_eq_getElem?_getD, List.getElem?_eq_getElem h]
  rfl
theorem drop_byte {l : List UInt8} {k : Nat} (h : k < l.length) : l.drop k = l.getD k 0 :: l.drop (k + 1) := by
  rw [List.drop_eq_getElem_cons h, List.getD_eq_getElem?_getD, List.getElem?_eq_getElem h]
  rfl
theorem byte_is (s : ByteArray) (k : Nat) (h : k < s.size) : s[k] = s.data.toList.getD k 0 := by
  rw [List.getD_eq_getElem?_getD, List.getElem?_eq_getElem (by simpa using h)]
  rfl
/-- the text from b to k -/
def part (l : List UInt8) (b k : Nat) : List UInt8 := (l.take k).drop b
theorem part_more {l : List UInt8} {b k : Nat} (h : k < l.length) (hb : b ≤ k) : part l b (k + 1) = part l b k ++ [l.getD k 0] := by
  unfold part
  rw [take_byte h, List.drop_append_of_le_length (by simp; omega)]
theorem part_none (l : List UInt8) (k : Nat) : part l k k = [] := List.drop_eq_nil_of_le (by simp; omega)
theorem lines_feed {l : List UInt8} {outs : List (List UInt8)} {b k : Nat} (h : outs ++ linesGo (l.drop k) (part l b k) = linesGo l []) (hk : k < l.length) (hc : l.getD k 0 = 10) :
    (outs ++ [part l b k]) ++ linesGo (l.drop (k + 1)) (part l (k + 1) (k + 1)) = linesGo l [] := by
  rw [drop_byte hk, hc, linesGo, if_pos rfl] at h
  rw [part_none, ← h]
  simp
theorem lines_go {l : List UInt8} {outs : List (List UInt8)} {b k : Nat} (h : outs ++ linesGo (l.drop k) (part l b k) = linesGo l []) (hk : k < l.length) (hb : b ≤ k) (hc : l.getD k 0 ≠ 10) :
    outs ++ linesGo (l.drop (k + 1)) (part l b (k + 1)) = linesGo l [] := by
  rw [drop_byte hk, linesGo, if_neg hc, ← part_more hk hb] at h
  exact h
theorem lines_end {l : List UInt8} {outs : List (List UInt8)} {b : Nat} (h : outs ++ linesGo (l.drop l.length) (part l b l.length) = linesGo l []) :
    (b < l.length → outs ++ [l.drop b] = linesGo l []) ∧ (l.length ≤ b → outs = linesGo l []) := by
  rw [List.drop_length, linesGo, part, List.take_length] at h
  refine ⟨fun hb => ?_, fun hb => ?_⟩
  · rw [if_neg (by rw [List.drop_eq_nil_iff]; omega)] at h
    exact h
  · rw [if_pos (by rw [List.drop_eq_nil_iff]; omega), List.append_nil] at h
    exact h

set_option maxHeartbeats 2000000 in
set_option maxRecDepth 100000 in
theorem rlines_calls (s : ByteArray) (w : World) (hs : s.size ≤ 1000000) :
    Calls Try.prog 18 #[.string s] w (RetT w (linesV s)) := by
  obtain ⟨i0, hi, hz0, hz1, hz2⟩ := info_parts infoStr
  have HI := hidden hi
  have HZ := hidden (And.intro hz0 (And.intro hz1 hz2))
  clear hi hz0 hz1 hz2
  have hL : s.data.toList.length = s.size := by simp
  have HL := hidden hL
  clear hL
  go_enter Try.func18, Try.ntmps18
  go_wp2
  go_loopw [3, 4, 5] (fun v b i wr => ∃ (k b0 : Nat) (outs : List (List UInt8)), k ≤ s.size ∧ b0 ≤ k ∧ i = .int .i64 k ∧ b = .int .i64 b0 ∧ outs.length ≤ k ∧ outs ++ linesGo (s.data.toList.drop k) (part s.data.toList b0 k) = linesGo s.data.toList [] ∧ RowT wr w.heap.size v (outs.map txt) ∧ Below w.heap.size w wr) (fun _ _ i _ => s.size - (intOf i).toNat)
  case atStart =>
    exact ⟨0, 0, [], by omega, by omega, rfl, rfl, by simp, by simp [part], ⟨rfl, .inr ⟨_, 0, #[], rfl, Nat.le_refl _, heap_alloc_new _ _, Nat.le_refl _, by decide, rfl, rfl⟩⟩, by go_grown⟩
  case round =>
    obtain ⟨k, b0, outs, hk, hb0, rfl, rfl, hol, hg, hR, hb⟩ := hrel
    have HB := hidden hb
    have HR := hidden hR
    have hws := hb.size
    by_cases hlt : k < s.size
    · have hbyte := byte_is s k hlt
      by_cases hc : s.data.toList.getD k 0 = 10
      · have HN := hidden (lines_feed hg (by rw [HL.out]; exact hlt) hc)
        have ht : ((s[k].toNat : Int) == 10) = true := by rw [hbyte, hc]; rfl
        have he := hidden (txt_extract s b0 k)
        have K3 := hidden (show (outs.map txt).length + 1 ≤ maxLen by unfold maxLen; simp; omega)
        have K4 := hidden (show ((outs.map txt).length + 1) * 16 ≤ 140737488355328 by simp; omega)
        have K5 := hidden (show w.heap.size ≤ (wr.alloc (.cells #[.string (s.extract b0 k)] 9)).heap.size by simp; omega)
        clear hbyte hc hg hb hR
        go_wp2_with (at_builtin; refine wpList_append_own _ rfl _ _ 22 rfl w.heap.size 9 i0 (.string ⟨#[]⟩) 1 16 Try.underlying22 HI.out HZ.out.1 HZ.out.2.1 HZ.out.2.2 rfl (by decide) _ _ _ rfl (World.ownsRow.alloc HR.out _) ⟨wr.heap.size, 0, none⟩ 1 1 [.string (s.extract b0 k)] rfl rfl (cell_one_new _ _ _) (by simp [Value.oneCell']) K3.out K4.out K5.out ?_)
        intro v5 w5 hown5 hgrow5 _
        have HO := hidden hown5
        have HB5 := hidden (append_below HB.out HR.out (Nat.le_refl _) hgrow5)
        clear hown5 hgrow5
        go_wp2
        go_roundw
        case rel => exact ⟨k + 1, k + 1, _, by omega, by omega, by go_num, by go_num, by simp; omega, HN.out, RowT.moreL (by have := HO.out; rw [he.out] at this; exact this), HB5.out⟩
        case measure => simp [intOf]; omega
      · have HN := hidden (lines_go hg (by rw [HL.out]; exact hlt) hb0 hc)
        have ht : ((s[k].toNat : Int) == 10) = false := by
          rw [hbyte]
          generalize s.data.toList.getD k 0 = x at hc
          simp
          intro e
          exact hc (UInt8.toNat_inj.1 (by simp; omega))
        clear hbyte hc hg hb hR
        go_wp2
        go_roundw
        case rel => exact ⟨k + 1, b0, outs, by omega, by omega, by go_num, rfl, by omega, HN.out, HR.out, HB.out⟩
        case measure => simp [intOf]; omega
    · obtain rfl : k = s.size := by omega
      have hE := lines_end (by rw [HL.out]; exact hg)
      rw [HL.out] at hE
      by_cases hlb : b0 < s.size
      · have HN := hidden (hE.1 hlb)
        have he := hidden (txt_extract s b0 s.size)
        have K3 := hidden (show (outs.map txt).length + 1 ≤ maxLen by unfold maxLen; simp; omega)
        have K4 := hidden (show ((outs.map txt).length + 1) * 16 ≤ 140737488355328 by simp; omega)
        have K5 := hidden (show w.heap.size ≤ (wr.alloc (.cells #[.string (s.extract b0 s.size)] 9)).heap.size by simp; omega)
        clear hE hg hb hR
        go_wp2_with (at_builtin; refine wpList_append_own _ rfl _ _ 22 rfl w.heap.size 9 i0 (.string ⟨#[]⟩) 1 16 Try.underlying22 HI.out HZ.out.1 HZ.out.2.1 HZ.out.2.2 rfl (by decide) _ _ _ rfl (World.ownsRow.alloc HR.out _) ⟨wr.heap.size, 0, none⟩ 1 1 [.string (s.extract b0 s.size)] rfl rfl (cell_one_new _ _ _) (by simp [Value.oneCell']) K3.out K4.out K5.out ?_)
        intro v5 w5 hown5 hgrow5 _
        have HO := hidden hown5
        have HB5 := hidden (append_below HB.out HR.out (Nat.le_refl _) hgrow5)
        clear hown5 hgrow5
        go_wp2
        go_ret
        refine ⟨_, rfl, ?_, HB5.out⟩
        unfold linesV
        rw [← HN.out]
        refine RowT.reads (RowT.moreL ?_)
        have := HO.out
        rw [he.out, List.take_of_length_le (l := s.data.toList) (i := s.size) (by simp)] at this
        exact this
      · have HN := hidden (hE.2 (by omega))
        clear hE hg hb hR
        go_wp2
        go_ret
        refine ⟨_, rfl, ?_, HB.out⟩
        unfold linesV
        rw [← HN.out]
        exact HR.out.reads
end Go.Proofs.Ytjkjbibfaekklaa
