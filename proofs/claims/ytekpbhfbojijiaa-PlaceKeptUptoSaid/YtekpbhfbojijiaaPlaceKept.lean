/- 'PlaceKept' answers true for every text, every two stretches and every text that is put: a stretch that does not meet what is taken out keeps its bytes, and moved back it is what it was. Conditions: what comes in is of bulk at most 1048576 ('..UptoSaid'). -/
import Derived.Test.YtekpbhfbojijiaaPlaceOf
import Derived.Test.YtekpbhfbojijiaaUpto
namespace Go.Proofs.Ytekpbhfbojijiaa.lawPlaceKept
open Go.ChangeShapes Go.WideShapes Go.ChangeAt Go.RowKit
open Go.ChangeMaps (open_string shut_string)

/-- the text with a stretch taken out and another text put there -/
def turned (s put : ByteArray) (k0 k1 : Nat) : ByteArray := s.extract 0 k0 ++ put ++ s.extract k1 s.size
theorem turned_size (s put : ByteArray) (k0 k1 : Nat) (h : k0 ≤ k1) (h1 : k1 ≤ s.size) : (turned s put k0 k1).size = k0 + put.size + (s.size - k1) := by
  unfold turned
  rw [ByteArray.size_append, ByteArray.size_append, part_size _ _ _ (by omega), part_size _ _ _ (Nat.le_refl _)]
  omega
theorem turned_list (s put : ByteArray) (k0 k1 : Nat) : (turned s put k0 k1).data.toList = s.data.toList.take k0 ++ (put.data.toList ++ s.data.toList.drop k1) := by
  unfold turned
  rw [ByteArray.data_append, Array.toList_append, ByteArray.data_append, Array.toList_append, part_list, part_list, List.append_assoc]
  congr 1
  congr 1
  rw [List.take_of_length_le (by simp)]
theorem kept_before (s put : ByteArray) {k0 k1 a0 a1 : Nat} (h : a1 ≤ k0) (hs : k0 ≤ s.size) : (turned s put k0 k1).extract a0 a1 = s.extract a0 a1 := by
  apply Go.WideShapes.bytes_inj
  rw [part_list, part_list, turned_list]
  apply List.ext_getElem?
  intro i
  rw [List.getElem?_take, List.getElem?_take]
  split
  · rw [List.getElem?_drop, List.getElem?_drop, List.getElem?_append_left (by simp; omega), List.getElem?_take, if_pos (by omega)]
  · rfl
theorem kept_after (s put : ByteArray) {k0 k1 a0 a1 : Nat} (h : k0 ≤ k1) (h1 : k1 ≤ a0) (ha : a0 ≤ a1) (hs : a1 ≤ s.size) : (turned s put k0 k1).extract (a0 - (k1 - k0) + put.size) (a1 - (k1 - k0) + put.size) = s.extract a0 a1 := by
  apply Go.WideShapes.bytes_inj
  rw [part_list, part_list, turned_list]
  apply List.ext_getElem?
  intro i
  rw [List.getElem?_take, List.getElem?_take]
  have hl : (s.data.toList.take k0).length = k0 := by simp; omega
  have hp : put.data.toList.length = put.size := by simp
  split
  · rw [if_pos (by omega), List.getElem?_drop, List.getElem?_drop, List.getElem?_append_right (by omega), List.getElem?_append_right (by omega), List.getElem?_drop]
    congr 1
    omega
  · rw [if_neg (by omega)]

/-- both stretches lie in the text -/
theorem kept_none (s put : ByteArray) (a0 a1 k0 k1 : Int) (w : World) (h : rightV a0 a1 s.size = false ∨ (rightV a0 a1 s.size = true ∧ rightV k0 k1 s.size = false)) :
    Calls Try.prog 7 #[.string s, .agg #[.int .i64 a0, .int .i64 a1], .agg #[.int .i64 k0, .int .i64 k1], .string put] w fun e w' => e = .returned (.bool true) ∧ Below w.heap.size w w' := by
  rcases h with h | ⟨h1, h2⟩
  · have h := hidden h
    go_enter Try.func7, Try.ntmps7
    go_wp2_with fail
    refine (right_calls a0 a1 _ _).mono ?_
    rintro e w1 ⟨rfl, hb1⟩
    rw [h.out]
    go_wp2_with fail
    refine (knows_calls _).mono ?_
    rintro e w2 ⟨rfl, hb2⟩
    go_wp2
    go_ret
    exact ⟨rfl, below_then (below_then (by go_grown) (by simp; omega) hb1) (by have := hb1.size; simp at this; omega) hb2⟩
  · have h1 := hidden h1
    have h2 := hidden h2
    go_enter Try.func7, Try.ntmps7
    go_wp2_with fail
    refine (right_calls a0 a1 _ _).mono ?_
    rintro e w1 ⟨rfl, hb1⟩
    rw [h1.out]
    obtain ⟨c0, c1, _, _⟩ := ((PairAt.made (t := 34) (w := w.alloc (.cells #[.int .i64 a0, .int .i64 a1] 34)) (a := k0) (b := k1) (B := w.heap.size + 1) (by simp)).below hb1).facts
    have hB1 := hidden (below_then (a := w) (B := w.heap.size) (by go_grown) (by simp; omega) hb1)
    clear hb1
    go_wp2_with fail
    refine (right_calls k0 k1 _ _).mono ?_
    rintro e w2 ⟨rfl, hb2⟩
    rw [h2.out]
    go_wp2_with fail
    refine (knows_calls _).mono ?_
    rintro e w3 ⟨rfl, hb3⟩
    go_wp2
    go_ret
    exact ⟨rfl, below_after (below_after hB1.out hb2) hb3⟩

theorem move_ok (a b k c n : Int) (x y : Int) (ok : Bool) (w : World) (h : Hid (moveV a b k c n = ((x, y), ok))) :
    Calls Try.prog 25 #[.agg #[.int .i64 a, .int .i64 b], .int .i64 k, .int .i64 c, .int .i64 n] w fun e w' => e = .returned (.tuple #[.agg #[.int .i64 x, .int .i64 y], .bool ok]) ∧ Below w.heap.size w w' :=
  (move_calls a b k c n w).mono fun _ _ ⟨he, hb⟩ => ⟨he.trans (by rw [h.out]; rfl), hb⟩
theorem right_ok (a b n : Int) (r : Bool) (w : World) (h : Hid (rightV a b n = r)) :
    Calls Try.prog 19 #[.agg #[.int .i64 a, .int .i64 b], .int .i64 n] w fun e w' => e = .returned (.bool r) ∧ Below w.heap.size w w' :=
  (right_calls a b n w).mono fun _ _ ⟨he, hb⟩ => ⟨he.trans (by rw [h.out]), hb⟩

set_option maxHeartbeats 2000000 in
set_option maxRecDepth 100000 in
theorem kept_met (s put : ByteArray) (a0 a1 k0 k1 : Nat) (w : World) (hs : s.size ≤ 1048576) (hp : put.size ≤ 1048576) (ha : a0 ≤ a1) (ha1 : a1 ≤ s.size) (hk : k0 ≤ k1) (hk1 : k1 ≤ s.size) (h1 : k0 < a1) (h2 : a0 < k1) :
    Calls Try.prog 7 #[.string s, .agg #[.int .i64 a0, .int .i64 a1], .agg #[.int .i64 k0, .int .i64 k1], .string put] w fun e w' => e = .returned (.bool true) ∧ Below w.heap.size w w' := by
  have r1 := hidden (show rightV a0 a1 s.size = true by unfold rightV; simp; omega)
  have r2 := hidden (show rightV k0 k1 s.size = true by unfold rightV; simp; omega)
  have mv := hidden (show moveV a0 a1 k0 ((k1 : Int) - k0) put.size = ((0, 0), false) by
    unfold moveV
    rw [if_pos (by omega), if_neg (by omega), if_neg (by omega)])
  have hd1 : decide ((k0 : Int) < (a1 : Int)) = true := by simp; omega
  have hd2 : decide ((a0 : Int) < (k1 : Int)) = true := by simp; omega
  go_enter Try.func7, Try.ntmps7
  go_wp2_with fail
  refine (right_ok a0 a1 _ true _ r1).mono ?_
  rintro e w1 ⟨rfl, hb1⟩
  have pk := (PairAt.made (t := 34) (w := w.alloc (.cells #[.int .i64 a0, .int .i64 a1] 34)) (a := k0) (b := k1) (B := w.heap.size + 1) (by simp)).below hb1
  have pa := ((PairAt.new 34 w a0 a1).alloc (.cells #[.int .i64 k0, .int .i64 k1] 34)).below hb1
  have hB1 := hidden (below_then (a := w) (B := w.heap.size) (by go_grown) (by simp; omega) hb1)
  obtain ⟨c0, c1, _, _⟩ := pk.facts
  clear hb1
  go_wp2_with fail
  refine (right_ok k0 k1 _ true _ r2).mono ?_
  rintro e w2 ⟨rfl, hb2⟩
  have pk2 := pk.below hb2
  have pa2 := pa.below hb2
  have hB2 := hidden (below_after hB1.out hb2)
  clear hb2 c0 c1 pk pa
  have q0 := pk2.later0
  have q1 := pk2.later1
  go_wp2
  refine wp_region_later (by kernel_rfl) (by kernel_rfl) ?_
  repeat (go_big_quiet_step (fail))
  refine wpQuiet_nil ?_
  rintro _ ⟨⟨_, hb3⟩, rfl⟩
  rename_i w3
  clear q0 q1
  generalize s.extract 0 k0 ++ put ++ s.extract k1 s.size = t
  have pk3 := pk2.below hb3
  have pa3 := pa2.below hb3
  have hB3 := hidden (below_after hB2.out hb3)
  clear hb3 pk2 pa2
  obtain ⟨c0, c1, _, _⟩ := pk3.facts
  obtain ⟨d0, d1, _, _⟩ := pa3.facts
  go_wp2_with fail
  refine (move_ok a0 a1 k0 ((k1 : Int) - k0) put.size 0 0 false _ mv).mono ?_
  rintro e w4 ⟨rfl, hb4⟩
  have pk4 := pk3.below hb4
  have pa4 := pa3.below hb4
  have hB4 := hidden (below_after hB3.out hb4)
  have hsk := pk4.lt
  have hsa := pa4.lt
  clear hb4 pk3 pa3 c0 c1 d0 d1
  obtain ⟨c0, c1, _, _⟩ := pk4.facts
  obtain ⟨d0, d1, _, _⟩ := pa4.facts
  go_wp2_with fail
  refine (knows_calls _).mono ?_
  rintro e w5 ⟨rfl, hb5⟩
  go_wp2
  go_ret
  exact ⟨rfl, below_after (hB4.out.alloc (by have := hB4.out.size; omega) _) hb5⟩

set_option maxHeartbeats 4000000 in
set_option maxRecDepth 100000 in
theorem kept_ok (s put : ByteArray) (a0 a1 k0 k1 b0 b1 : Nat) (c0 c1 : Int) (back : Bool) (w : World) (hs : s.size ≤ 1048576) (hp : put.size ≤ 1048576) (ha : a0 ≤ a1) (ha1 : a1 ≤ s.size) (hk : k0 ≤ k1) (hk1 : k1 ≤ s.size) (hb : b0 ≤ b1)
    (mv : Hid (moveV a0 a1 k0 ((k1 : Int) - k0) put.size = (((b0 : Int), (b1 : Int)), true))) (mb : Hid (moveV b0 b1 k0 put.size ((k1 : Int) - k0) = ((c0, c1), back)))
    (hbt : b1 ≤ (turned s put k0 k1).size) (heq : (turned s put k0 k1).extract b0 b1 = s.extract a0 a1) (hlen : b1 - b0 = a1 - a0)
    (how : a0 = a1 ∨ (a0 < a1 ∧ a1 ≤ k0 ∧ b0 = a0 ∧ b1 = a1) ∨ (a0 < a1 ∧ k0 < a1 ∧ c0 = a0 ∧ c1 = a1 ∧ back = true)) :
    Calls Try.prog 7 #[.string s, .agg #[.int .i64 a0, .int .i64 a1], .agg #[.int .i64 k0, .int .i64 k1], .string put] w fun e w' => e = .returned (.bool true) ∧ Below w.heap.size w w' := by
  have r1 := hidden (show rightV a0 a1 s.size = true by unfold rightV; simp; omega)
  have r2 := hidden (show rightV k0 k1 s.size = true by unfold rightV; simp; omega)
  have r3 := hidden (show rightV b0 b1 (turned s put k0 k1).size = true by unfold rightV; simp; omega)
  have htx : ((((turned s put k0 k1).extract b0 b1).toList == (s.extract a0 a1).toList)) = true := by rw [heq]; exact text_same _
  have hne : ((((turned s put k0 k1).extract b0 b1).toList != (s.extract a0 a1).toList)) = false := by rw [heq]; simp
  have hsz : (turned s put k0 k1).size ≤ 4000000 := by rw [turned_size s put k0 k1 hk hk1]; omega
  obtain ⟨L, hL⟩ : ∃ L : Nat, L = a1 - a0 := ⟨_, rfl⟩
  have L1 : Hid (lenV a0 a1 = (L : Int)) := hidden (by unfold lenV; rw [if_pos (by omega)]; omega)
  have L2 : Hid (lenV b0 b1 = (L : Int)) := hidden (by unfold lenV; rw [if_pos (by omega)]; omega)
  have bds := hidden (show ((a0 : Int) ≤ 9223372036854775807 ∧ (a1 : Int) ≤ 9223372036854775807) ∧ (b0 : Int) ≤ 9223372036854775807 ∧ (b1 : Int) ≤ 9223372036854775807 by omega)
  have hT : s.extract 0 k0 ++ put ++ s.extract k1 s.size = turned s put k0 k1 := rfl
  have HT := hidden hT
  clear hT heq hlen
  go_enter Try.func7, Try.ntmps7
  go_wp2_with fail
  refine (right_ok a0 a1 _ true _ r1).mono ?_
  rintro e w1 ⟨rfl, hb1⟩
  have pk := (PairAt.made (t := 34) (w := w.alloc (.cells #[.int .i64 a0, .int .i64 a1] 34)) (a := k0) (b := k1) (B := w.heap.size + 1) (by simp)).below hb1
  have pa := ((PairAt.new 34 w a0 a1).alloc (.cells #[.int .i64 k0, .int .i64 k1] 34)).below hb1
  have hB1 := hidden (below_then (a := w) (B := w.heap.size) (by go_grown) (by simp; omega) hb1)
  obtain ⟨x0, x1, _, _⟩ := pk.facts
  clear hb1
  go_wp2_with fail
  refine (right_ok k0 k1 _ true _ r2).mono ?_
  rintro e w2 ⟨rfl, hb2⟩
  have pk2 := pk.below hb2
  have pa2 := pa.below hb2
  have hB2 := hidden (below_after hB1.out hb2)
  clear hb2 x0 x1 pk pa
  have q0 := pk2.later0
  have q1 := pk2.later1
  go_wp2
  refine wp_region_later (by kernel_rfl) (by kernel_rfl) ?_
  repeat (go_big_quiet_step (fail))
  refine wpQuiet_nil ?_
  rintro _ ⟨⟨_, hb3⟩, rfl⟩
  rename_i w3
  clear q0 q1
  rw [HT.out]
  clear HT
  generalize turned s put k0 k1 = t at *
  have pk3 := pk2.below hb3
  have pa3 := pa2.below hb3
  have hB3 := hidden (below_after hB2.out hb3)
  clear hb3 pk2 pa2
  obtain ⟨x0, x1, _, _⟩ := pk3.facts
  obtain ⟨y0, y1, _, _⟩ := pa3.facts
  go_wp2_with fail
  refine (move_ok a0 a1 k0 ((k1 : Int) - k0) put.size b0 b1 true _ mv).mono ?_
  rintro e w4 ⟨rfl, hb4⟩
  have pk4 := (pk3.below hb4).alloc (.cells #[.int .i64 b0, .int .i64 b1] 34)
  have pa4 := (pa3.below hb4).alloc (.cells #[.int .i64 b0, .int .i64 b1] 34)
  have pb4 := PairAt.new 34 w4 b0 b1
  have hB4 := hidden ((below_after hB3.out hb4).alloc (by have := hB3.out.size; have := hb4.size; omega) (.cells #[.int .i64 b0, .int .i64 b1] 34))
  clear hb4 pk3 pa3 x0 x1 y0 y1
  have e0 := pb4.later0
  have e1 := pb4.later1
  have y0 := pa4.later0
  have y1 := pa4.later1
  go_wp2
  refine wp_region_later (by kernel_rfl) (by kernel_rfl) ?_
  repeat (go_big_quiet_step (exact Later.calls (right_ok b0 b1 _ true _ r3)))
  refine wpQuiet_nil ?_
  rintro _ ⟨⟨_, hb5⟩, rfl⟩
  rename_i w5
  clear e0 e1 y0 y1
  have pk5 := pk4.below hb5
  have pa5 := pa4.below hb5
  have pb5 := pb4.below hb5
  have hB5 := hidden (below_after hB4.out hb5)
  clear hb5 pk4 pa4 pb4
  obtain ⟨x0, x1, _, _⟩ := pk5.facts
  obtain ⟨y0, y1, _, _⟩ := pb5.facts
  go_wp2_with fail
  refine (move_ok b0 b1 k0 put.size ((k1 : Int) - k0) c0 c1 back _ mb).mono ?_
  rintro e w6 ⟨rfl, hb6⟩
  have pk6 := (pk5.below hb6).alloc (.cells #[.int .i64 c0, .int .i64 c1] 34)
  have pa6 := (pa5.below hb6).alloc (.cells #[.int .i64 c0, .int .i64 c1] 34)
  have pb6 := (pb5.below hb6).alloc (.cells #[.int .i64 c0, .int .i64 c1] 34)
  have pc6 := PairAt.new 34 w6 c0 c1
  have hB6 := hidden ((below_after hB5.out hb6).alloc (by have := hB5.out.size; have := hb6.size; omega) (.cells #[.int .i64 c0, .int .i64 c1] 34))
  clear hb6 pk5 pa5 pb5 x0 x1 y0 y1
  have e0 := pb6.later0
  have e1 := pb6.later1
  have y0 := pa6.later0
  have y1 := pa6.later1
  have x0 := pk6.later0
  have x1 := pk6.later1
  have z0 := pc6.later0
  have z1 := pc6.later1
  have hw : ((L : Int) == 0) = true ∨ (((L : Int) == 0) = false ∧ decide (k0 < a1) = false ∧ decide (a1 ≤ k0) = true ∧ b0 = a0 ∧ b1 = a1) ∨ (((L : Int) == 0) = false ∧ decide (k0 < a1) = true ∧ c0 = a0 ∧ c1 = a1 ∧ back = true) := by
    rcases how with h | ⟨h1, h2, h3, h4⟩ | ⟨h1, h2, h3, h4, h5⟩
    · left; simp; omega
    · right; left; exact ⟨by simp; omega, by simp; omega, by simp; omega, h3, h4⟩
    · right; right; exact ⟨by simp; omega, by simp; omega, h3, h4, h5⟩
  clear how hbt hsz htx hne r1 r2 r3 mv mb hL pk6 pa6 pb6 pc6 hs hp ha ha1 hk hk1 hb
  rcases hw with h1 | ⟨h1, h2, h3, rfl, rfl⟩ | ⟨h1, h2, rfl, rfl, rfl⟩
  all_goals
    go_wp2
    have l1 := L1.out
    have l2 := L2.out
    have bd := bds.out
    refine wp_region_later (by kernel_rfl) (by kernel_rfl) ?_
    repeat (go_big_quiet_step (first
      | (go_at_call 17; exact Later.calls (len_calls _ _ _ (by omega) (by omega)))
      | (go_at_call 8; exact Later.calls (knows_calls _))))
    refine wpQuiet_nil ?_
    rintro _ ⟨⟨_, hb7⟩, rfl⟩
    clear e0 e1 y0 y1 x0 x1 z0 z1
    go_wp2
    go_ret
    exact ⟨rfl, below_after hB6.out hb7⟩
theorem pair_eq {a b c d : Int} {x : Bool} (h : a = c) (h' : b = d) : ((a, b), x) = ((c, d), x) := by rw [h, h']
theorem walk (s : ByteArray) (a0 a1 k0 k1 : Int) (put : ByteArray) (w : World) (hs : s.size ≤ 1048576) (_ : -9223372036854775808 ≤ a0 ∧ a0 ≤ 9223372036854775807) (_ : -9223372036854775808 ≤ a1 ∧ a1 ≤ 9223372036854775807) (_ : -9223372036854775808 ≤ k0 ∧ k0 ≤ 9223372036854775807) (_ : -9223372036854775808 ≤ k1 ∧ k1 ≤ 9223372036854775807) (hp : put.size ≤ 1048576) :
    Calls Try.prog 7 #[.string s, .agg #[.int .i64 a0, .int .i64 a1], .agg #[.int .i64 k0, .int .i64 k1], .string put] w fun e w' => e = .returned (.bool true) ∧ Below w.heap.size w w' := by
  rcases right_true a0 a1 s.size with hA | hA
  · rcases right_true k0 k1 s.size with hK | hK
    · have gA : 0 ≤ a0 ∧ a0 ≤ a1 ∧ a1 ≤ s.size := by simpa [rightV] using hA
      have gK : 0 ≤ k0 ∧ k0 ≤ k1 ∧ k1 ≤ s.size := by simpa [rightV] using hK
      clear hA hK
      obtain ⟨A0, rfl⟩ := Int.eq_ofNat_of_zero_le gA.1
      obtain ⟨A1, rfl⟩ := Int.eq_ofNat_of_zero_le (show 0 ≤ a1 by omega)
      obtain ⟨K0, rfl⟩ := Int.eq_ofNat_of_zero_le gK.1
      obtain ⟨K1, rfl⟩ := Int.eq_ofNat_of_zero_le (show 0 ≤ k1 by omega)
      have hsz := turned_size s put K0 K1 (by omega) (by omega)
      by_cases h1 : A1 ≤ K0
      · refine kept_ok s put A0 A1 K0 K1 A0 A1 A0 A1 true w hs hp (by omega) (by omega) (by omega) (by omega) (by omega) (hidden (moveV_same (by omega) (by omega))) (hidden (moveV_same (by omega) (by omega))) (by omega) (kept_before s put h1 (by omega)) rfl ?_
        by_cases h2 : A0 = A1
        · exact .inl h2
        · exact .inr (.inl ⟨by omega, h1, rfl, rfl⟩)
      · by_cases h2 : K1 ≤ A0
        · have mv := moveV_on (a := A0) (b := A1) (at' := K0) (cut := (K1 : Int) - K0) (put := put.size) (by omega) (by omega) (by omega)
          have heq := kept_after s put (k0 := K0) (k1 := K1) (a0 := A0) (a1 := A1) (by omega) h2 (by omega) (by omega)
          obtain ⟨B0, hB0⟩ : ∃ B0, B0 = A0 - (K1 - K0) + put.size := ⟨_, rfl⟩
          obtain ⟨B1, hB1⟩ : ∃ B1, B1 = A1 - (K1 - K0) + put.size := ⟨_, rfl⟩
          rw [← hB0, ← hB1] at heq
          rw [pair_eq (show (A0 : Int) - ((K1 : Int) - K0) + put.size = (B0 : Int) by omega) (show (A1 : Int) - ((K1 : Int) - K0) + put.size = (B1 : Int) by omega)] at mv
          have e1 : B0 + K1 = A0 + K0 + put.size := by omega
          have e2 : B1 + K1 = A1 + K0 + put.size := by omega
          have e3 : (turned s put K0 K1).size + K1 = K0 + put.size + s.size := by omega
          clear hB0 hB1 hsz
          by_cases h3 : B1 ≤ K0
          · exact kept_ok s put A0 A1 K0 K1 B0 B1 B0 B1 true w hs hp (by omega) (by omega) (by omega) (by omega) (by omega) (hidden mv) (hidden (moveV_same (by omega) (by omega))) (by omega) heq (by omega) (.inl (by omega))
          · exact kept_ok s put A0 A1 K0 K1 B0 B1 _ _ true w hs hp (by omega) (by omega) (by omega) (by omega) (by omega) (hidden mv) (hidden (moveV_on (by omega) (by omega) (by omega))) (by omega) heq (by omega) (by
              by_cases h4 : A0 = A1
              · exact .inl h4
              · exact .inr (.inr ⟨by omega, by omega, by omega, by omega, rfl⟩))
        · exact kept_met s put A0 A1 K0 K1 w hs hp (by omega) (by omega) (by omega) (by omega) (by omega) (by omega)
    · exact kept_none s put a0 a1 k0 k1 w (.inr ⟨hA, hK⟩)
  · exact kept_none s put a0 a1 k0 k1 w (.inl hA)

set_option maxRecDepth 100000 in
theorem lifted (os : Os) (started : os.Started) (H : Type) (enc : TypeId × Value → H) (F : Stop.Interp) :
    ReturnsInHanded {} Try.checked os 7 .any ((Rows.OpenSpec.upto Rows.placeKeptSpec).pre6 enc Try.prog Try.f7 Rows.placeKeptUptoRow.domain false) (((Rows.OpenSpec.upto Rows.placeKeptSpec).at F).post enc Try.prog Try.f7 false true false false) := by
  refine returnsInHanded_of_cond (C := Try.checked) (s := Rows.OpenSpec.upto Rows.placeKeptSpec) (k := Rows.uptoSmall) rfl own started (by kernel_rfl) Try.func7
    (OpenSpec.witness (enc := enc) (C := Try.checked) (s := Rows.OpenSpec.upto Rows.placeKeptSpec) (k := Rows.uptoSmall) rfl false ⟨#[], #[.string ⟨#[]⟩, .agg #[.int .i64 0, .int .i64 0], .agg #[.int .i64 0, .int .i64 0], .string ⟨#[]⟩], []⟩ 8 (by kernel_rfl) (by kernel_rfl) (by kernel_rfl)
      (x := ([.lit (.string []), .agg [.lit (.int .i64 0), .lit (.int .i64 0)], .agg [.lit (.int .i64 0), .lit (.int .i64 0)], .lit (.string [])], [], [])) (by kernel_rfl) rfl (by kernel_rfl)) ?_
  intro W base args ds gs before hval0 hW _ hk _
  have hval : ∀ (j : Nat) t v, Try.f7.params[j]? = some t → args[j]? = some v → Value.okWide Try.prog W .any base t v := hval0
  have hW' : DataW.Whole enc Try.prog Try.f7.params.toList Rows.placeKeptSpec.vars false W args.toList ds gs before := hW
  obtain ⟨p, q, hA0, hV, rfl, hfz, hnd⟩ := hW
  have hA : DataW.TrodAll enc Try.prog W 0 (fun _ => true) true Try.f7.params.toList args.toList ds p := hA0
  rw [Try.params7] at hA hval
  obtain ⟨v0, vs0, d0, ds0, p0, q0, hargs, hd0, hp0, h0, r0⟩ := trodAll_cons hA
  obtain ⟨v1, vs1, d1, ds1, p1, q1, rfl, hd1, hp1, h1, r1⟩ := trodAll_cons r0
  obtain ⟨v2, vs2, d2, ds2, p2, q2, rfl, hd2, hp2, h2, r2⟩ := trodAll_cons r1
  obtain ⟨v3, vs3, d3, ds3, p3, q3, rfl, hd3, hp3, h3, r3⟩ := trodAll_cons r2
  obtain ⟨rfl, _, _⟩ := trodAll_nil r3
  obtain rfl : args = #[v0, v1, v2, v3] := by cases args; simp_all
  obtain ⟨a0, rfl, e0, _, w0⟩ := open_string Try.underlying9 (hval 0 9 v0 rfl rfl) h0
  obtain ⟨a1, b1, rfl, w1, u1⟩ := open_pair Try.underlying34 Try.underlying3 Try.underlying3 (by kernel_rfl) (by kernel_rfl) (hval 1 34 v1 rfl rfl) h1
  obtain ⟨a2, b2, rfl, w2, u2⟩ := open_pair Try.underlying34 Try.underlying3 Try.underlying3 (by kernel_rfl) (by kernel_rfl) (hval 2 34 v2 rfl rfl) h2
  obtain ⟨a3, rfl, e3, _, w3⟩ := open_string Try.underlying9 (hval 3 9 v3 rfl rfl) h3
  refine (walk a0 a1 b1 a2 b2 a3 W (upto_string hk (by rw [hd0, e0]; simp)) (wf_i64 w1) (wf_i64 u1) (wf_i64 w2) (wf_i64 u2) (upto_string hk (by rw [hd0, hd1, hd2, hd3, e3]; simp))).mono fun e W' ⟨he, hb⟩ => ⟨_, he, ends_true hW' rfl (by kernel_rfl) ?_ (by kernel_rfl) hb⟩
  intro xs hxs
  match xs, hxs with
  | [_, _, _, _], _ => rfl

theorem proved : Rows.PlaceKeptUptoSaid :=
  OpenClaim.holds_of_cond 7 Try.f7 rfl rfl rfl rfl rfl rfl rfl ⟨rfl, rfl, rfl, rfl, rfl⟩ rfl rfl rfl rfl rfl (by kernel_rfl) Try.func7 (by kernel_rfl)
    (of_decide_eq_true (by kernel_rfl)) (by unfold Func.isWrapper; first | (rw [if_pos (by decide +kernel)]; kernel_rfl) | (rw [if_neg (by decide +kernel)]; exact ⟨rfl, rfl⟩))
    (fun os started H enc _ F => lifted os started H enc F)
end Go.Proofs.Ytekpbhfbojijiaa.lawPlaceKept
