/- Contracts of place.Of, place.Line and the reference's; what the statements of layer 3 know. -/
import Derived.Test.YtekpbhfbojijiaaPlaceFind
namespace Go.Proofs.Ytekpbhfbojijiaa
open Go.RowKit

theorem find_ok (s : ByteArray) (n : Int) (a b : Nat) (ok : Bool) (w : World) (hs : s.size ≤ 1000000) (h : Hid (lineV s.data.toList n = ((a, b), ok))) :
    Calls Try.prog 28 #[.string s, .int .i64 n] w fun e w' => e = .returned (.tuple #[.agg #[.int .i64 a, .int .i64 b], .bool ok]) ∧ Below w.heap.size w w' :=
  (find_calls s n w hs).mono fun e w' ⟨he, hb⟩ => ⟨he.trans (by rw [h.out]; rfl), hb⟩
theorem len_ok (a b : Nat) (w : World) (h : a ≤ b) (hb : b ≤ 1000000) :
    Calls Try.prog 17 #[.agg #[.int .i64 a, .int .i64 b]] w fun e w' => e = .returned (.int .i64 ((b : Int) - a)) ∧ Below w.heap.size w w' :=
  (len_calls a b w (by omega) (by omega)).mono fun e w' ⟨he, hb⟩ => ⟨he.trans (by rw [lenV, if_pos (by omega)]), hb⟩

/-- what Of hands back -/
def ofR (x : Int × Bool) : Ending := .returned (.tuple #[.int .i64 x.1, .bool x.2])
set_option maxHeartbeats 1000000 in
theorem of_none (s : ByteArray) (n c : Int) (w : World) (hs : s.size ≤ 1000000) (h : Hid (lineV s.data.toList n = ((0, 0), false))) :
    Calls Try.prog 11 #[.string s, .agg #[.int .i64 n, .int .i64 c]] w fun e w' => e = ofR (0, false) ∧ Below w.heap.size w w' := by
  go_enter Try.func11, Try.ntmps11
  go_wp2_with fail
  refine (find_ok s n 0 0 false _ hs h).mono ?_
  rintro e w1 ⟨rfl, hb1⟩
  have hB := hidden (below_then (a := w) (B := w.heap.size) (by go_grown) (by simp) hb1)
  clear hb1
  go_wp2
  refine wp_region_later (by kernel_rfl) (by kernel_rfl) ?_
  repeat (go_big_quiet_step (fail))
  refine wpQuiet_nil ?_
  rintro _ ⟨⟨w2, hb2⟩, rfl⟩
  go_wp2
  go_ret2
  exact ⟨rfl, below_then (hB.out.alloc hB.out.size _) (by simp; exact Nat.le_succ_of_le hB.out.size) hb2⟩
set_option maxHeartbeats 1000000 in
theorem of_low (s : ByteArray) (n c : Int) (a b : Nat) (w : World) (hs : s.size ≤ 1000000) (h : Hid (lineV s.data.toList n = ((a, b), true))) (h1 : c < 1) :
    Calls Try.prog 11 #[.string s, .agg #[.int .i64 n, .int .i64 c]] w fun e w' => e = ofR (0, false) ∧ Below w.heap.size w w' := by
  go_enter Try.func11, Try.ntmps11
  go_wp2_with fail
  refine (find_ok s n a b true _ hs h).mono ?_
  rintro e w1 ⟨rfl, hb1⟩
  have hB := hidden (below_then (a := w) (B := w.heap.size) (by go_grown) (by simp) hb1)
  have hp := (PairAt.new 23 w n c).below hb1
  have hsz : w.heap.size < w1.heap.size := hp.lt
  clear hb1
  go_wp2
  have hL := PairAt.new 34 w1 a b
  have hp2 := hp.alloc (.cells #[.int .i64 a, .int .i64 b] 34)
  have p0 := hp2.later0
  have p1 := hp2.later1
  have l0 := hL.later0
  have l1 := hL.later1
  have HP := hidden hp2
  have HL := hidden hL
  clear hp hp2 hL
  refine wp_region_later (by kernel_rfl) (by kernel_rfl) ?_
  repeat (go_big_quiet_step (fail))
  refine wpQuiet_nil ?_
  rintro _ ⟨⟨w2, hb2⟩, rfl⟩
  clear p0 p1 l0 l1
  go_wp2
  go_ret2
  exact ⟨rfl, below_then (hB.out.alloc hB.out.size _) (by simp; exact Nat.le_succ_of_le hB.out.size) hb2⟩
set_option maxHeartbeats 1000000 in
theorem of_high (s : ByteArray) (n c : Int) (a b : Nat) (w : World) (hs : s.size ≤ 1000000) (h : Hid (lineV s.data.toList n = ((a, b), true))) (hab : a ≤ b) (hbb : b ≤ 1000000) (h1 : 1 ≤ c) (hc : c ≤ 9223372036854775807) (h2 : (b : Int) - a < c - 1) :
    Calls Try.prog 11 #[.string s, .agg #[.int .i64 n, .int .i64 c]] w fun e w' => e = ofR (0, false) ∧ Below w.heap.size w w' := by
  have hd : decide (c < 1) = false := by simp; omega
  go_enter Try.func11, Try.ntmps11
  go_wp2_with fail
  refine (find_ok s n a b true _ hs h).mono ?_
  rintro e w1 ⟨rfl, hb1⟩
  have hB := hidden (below_then (a := w) (B := w.heap.size) (by go_grown) (by simp) hb1)
  have hp := (PairAt.new 23 w n c).below hb1
  have hsz : w.heap.size < w1.heap.size := hp.lt
  clear hb1
  go_wp2
  have hL := PairAt.new 34 w1 a b
  have hp2 := hp.alloc (.cells #[.int .i64 a, .int .i64 b] 34)
  have p0 := hp2.later0
  have p1 := hp2.later1
  have l0 := hL.later0
  have l1 := hL.later1
  have HP := hidden hp2
  have HL := hidden hL
  clear hp hp2 hL
  refine wp_region_later (by kernel_rfl) (by kernel_rfl) ?_
  repeat (go_big_quiet_step (exact Later.calls (len_ok a b _ hab hbb)))
  refine wpQuiet_nil ?_
  rintro _ ⟨⟨w2, hb2⟩, rfl⟩
  clear p0 p1 l0 l1
  go_wp2
  go_ret2
  exact ⟨rfl, below_then (hB.out.alloc hB.out.size _) (by simp; exact Nat.le_succ_of_le hB.out.size) hb2⟩
set_option maxHeartbeats 1000000 in
theorem of_in (s : ByteArray) (n c : Int) (a b : Nat) (w : World) (hs : s.size ≤ 1000000) (h : Hid (lineV s.data.toList n = ((a, b), true))) (hab : a ≤ b) (hbb : b ≤ 1000000) (h1 : 1 ≤ c) (h2 : c - 1 ≤ (b : Int) - a) :
    Calls Try.prog 11 #[.string s, .agg #[.int .i64 n, .int .i64 c]] w fun e w' => e = ofR (a + c - 1, true) ∧ Below w.heap.size w w' := by
  have hd : decide (c < 1) = false := by simp; omega
  go_enter Try.func11, Try.ntmps11
  go_wp2_with fail
  refine (find_ok s n a b true _ hs h).mono ?_
  rintro e w1 ⟨rfl, hb1⟩
  have hB := hidden (below_then (a := w) (B := w.heap.size) (by go_grown) (by simp) hb1)
  have hp := (PairAt.new 23 w n c).below hb1
  have hsz : w.heap.size < w1.heap.size := hp.lt
  clear hb1
  go_wp2
  have hL := PairAt.new 34 w1 a b
  have hp2 := hp.alloc (.cells #[.int .i64 a, .int .i64 b] 34)
  have p0 := hp2.later0
  have p1 := hp2.later1
  have l0 := hL.later0
  have l1 := hL.later1
  have HP := hidden hp2
  have HL := hidden hL
  clear hp hp2 hL
  refine wp_region_later (by kernel_rfl) (by kernel_rfl) ?_
  repeat (go_big_quiet_step (exact Later.calls (len_ok a b _ hab hbb)))
  refine wpQuiet_nil ?_
  rintro _ ⟨⟨w2, hb2⟩, rfl⟩
  obtain ⟨q0, q1, _, _⟩ := (HP.out.below hb2).facts
  obtain ⟨r0, r1, _, _⟩ := (HL.out.below hb2).facts
  clear p0 p1 l0 l1
  go_wp2
  go_ret2
  exact ⟨rfl, below_then (hB.out.alloc hB.out.size _) (by simp; exact Nat.le_succ_of_le hB.out.size) hb2⟩
theorem ofV_of_line {l : List UInt8} {n c : Int} {a b : Nat} (h : lineV l n = ((a, b), true)) : ofV l n c = if 1 ≤ c ∧ c - 1 ≤ (b : Int) - a then (a + c - 1, true) else (0, false) := by
  unfold lineV at h
  unfold ofV
  split at h
  · rename_i hn
    rw [if_pos hn]
    split at h
    · rename_i p hp
      rw [hp]
      obtain ⟨x, y⟩ := p
      simp at h
      obtain ⟨rfl, rfl⟩ := h
      rfl
    · simp at h
  · simp at h
theorem ofV_no_line {l : List UInt8} {n c : Int} (h : lineV l n = ((0, 0), false)) : ofV l n c = (0, false) := by
  unfold lineV at h
  unfold ofV
  split at h
  · rename_i hn
    rw [if_pos hn]
    split at h
    · simp at h
    · rename_i hp
      rw [hp]
  · rename_i hn
    rw [if_neg hn]
theorem lineV_ways (l : List UInt8) (n : Int) : lineV l n = ((0, 0), false) ∨ ∃ a b, lineV l n = ((a, b), true) ∧ a ≤ b ∧ b ≤ l.length := by
  by_cases h : 1 ≤ n ∧ n ≤ (l.count 10 : Int) + 1
  · obtain ⟨a, b, _, e, h1, h2, _⟩ := lineV_some h.1 h.2
    exact .inr ⟨a, b, e, h1, h2⟩
  · exact .inl (lineV_none (by omega))
theorem of_calls (s : ByteArray) (n c : Int) (w : World) (hs : s.size ≤ 1000000) (hc : -9223372036854775808 ≤ c ∧ c ≤ 9223372036854775807) :
    Calls Try.prog 11 #[.string s, .agg #[.int .i64 n, .int .i64 c]] w fun e w' => e = ofR (ofV s.data.toList n c) ∧ Below w.heap.size w w' := by
  rcases lineV_ways s.data.toList n with h | ⟨a, b, h, h1, h2⟩
  · rw [ofV_no_line h]
    exact of_none s n c w hs (hidden h)
  · rw [list_len] at h2
    rw [ofV_of_line h]
    by_cases g1 : 1 ≤ c
    · by_cases g2 : c - 1 ≤ (b : Int) - a
      · rw [if_pos ⟨g1, g2⟩]
        exact of_in s n c a b w hs (hidden h) h1 (by omega) g1 g2
      · rw [if_neg (by omega)]
        exact of_high s n c a b w hs (hidden h) h1 (by omega) g1 hc.2 (by omega)
    · rw [if_neg (by omega)]
      exact of_low s n c a b w hs (hidden h) (by omega)

def lineR (s : ByteArray) (x : (Nat × Nat) × Bool) : Ending := .returned (.tuple #[.string (s.extract x.1.1 x.1.2), .bool x.2])
theorem line_calls (s : ByteArray) (n : Int) (w : World) (hs : s.size ≤ 1000000) :
    Calls Try.prog 13 #[.string s, .int .i64 n] w fun e w' => e = lineR s (lineV s.data.toList n) ∧ Below w.heap.size w w' := by
  have hle := lineV_le s.data.toList n
  rw [list_len] at hle
  generalize hx : lineV s.data.toList n = x at *
  obtain ⟨⟨a, b⟩, ok⟩ := x
  have HX := hidden hx
  clear hx
  obtain ⟨h1, h2⟩ := hle
  simp only at h1 h2
  unfold lineR
  simp only
  go_enter Try.func13, Try.ntmps13
  go_wp2_with fail
  refine (find_ok s n a b ok _ hs HX).mono ?_
  rintro e w1 ⟨rfl, hb1⟩
  go_wp2
  go_ret2
  exact ⟨rfl, below_then (hb1.alloc hb1.size _) (by simp; exact Nat.le_succ_of_le hb1.size) (Below.refl _ _)⟩

theorem rat_ok (s : ByteArray) (x : Nat) (w : World) (hs : s.size ≤ 1000000) (h : x ≤ s.size) :
    Calls Try.prog 10 #[.string s, .int .i64 x] w fun e w' => e = .returned (.tuple #[.agg #[.int .i64 (lineAt s.data.toList x), .int .i64 (colAt s.data.toList x)], .bool true]) ∧ Below w.heap.size w w' := rat_calls s x w hs h
set_option maxRecDepth 100000 in
set_option maxHeartbeats 1000000 in
theorem rof_calls (s : ByteArray) (n c : Int) (w : World) (hs : s.size ≤ 1000000) :
    Calls Try.prog 12 #[.string s, .agg #[.int .i64 n, .int .i64 c]] w fun e w' => e = ofR (ofV s.data.toList n c) ∧ Below w.heap.size w w' := by
  have HE := hidden (fun x => ofV_eq (l := s.data.toList) (x := x) (n := n) (c := c))
  have HN := hidden (ofV_none (l := s.data.toList) (n := n) (c := c))
  have HC := fun k W h => rat_ok s k W hs h
  generalize ofV s.data.toList n c = R at *
  have hat := hidden HC
  clear HC
  go_enter Try.func12, Try.ntmps12
  go_wp2
  go_loopw [6] (fun i wr => ∃ k : Nat, k ≤ s.size + 1 ∧ i = .int .i64 k ∧ (∀ x : Nat, x < k → ¬ ((lineAt s.data.toList x : Int) = n ∧ (colAt s.data.toList x : Int) = c)) ∧ PairAt 23 wr w.heap.size n c ∧ Below w.heap.size w wr) (fun i _ => s.size + 1 - (intOf i).toNat)
  case atStart => exact ⟨0, by omega, rfl, fun x h => by omega, PairAt.new _ _ _ _, by go_grown⟩
  case round =>
    obtain ⟨k, hk, rfl, hj, hp, hb⟩ := hrel
    have HJ := hidden hj
    have hlt0 := hp.lt
    clear hj
    by_cases hlt : k ≤ s.size
    · generalize hL : lineAt s.data.toList k = L at *
      generalize hC : colAt s.data.toList k = C at *
      have hLC := hidden (And.intro hL hC)
      have hat' := hidden (fun W => hat.out k W hlt)
      have HR := hidden (HE.out k (by simpa using hlt))
      rw [hL, hC] at HR hat'
      clear hL hC
      by_cases h1 : (L : Int) = n
      · by_cases h2 : (C : Int) = c
        · have hR := hidden (HR.out ⟨h1, h2⟩)
          clear HR
          subst h1 h2
          have HP := hidden hp
          have HB := hidden hb
          clear hp hb
          go_wp2_with fail
          refine (hat'.out _).mono ?_
          rintro e w1 ⟨rfl, hb1⟩
          obtain ⟨c0, c1, _, _⟩ := (HP.out.below hb1).facts
          have hsz : w.heap.size < w1.heap.size := (HP.out.below hb1).lt
          go_wp2
          go_ret2
          refine ⟨?_, ?_⟩
          · rw [hR.out]
            rfl
          · exact (below_after HB.out hb1).alloc (by have := HB.out.size; have := hb1.size; omega) _
        · have he2 : ((C : Int) == c) = false := by simpa using h2
          have H2 := hidden h2
          clear h2 HR
          subst h1
          have HP := hidden hp
          have HB := hidden hb
          clear hp hb
          go_wp2_with fail
          refine (hat'.out _).mono ?_
          rintro e w1 ⟨rfl, hb1⟩
          obtain ⟨c0, c1, _, _⟩ := (HP.out.below hb1).facts
          have hsz : w.heap.size < w1.heap.size := (HP.out.below hb1).lt
          go_wp2
          refine ⟨⟨k + 1, by omega, by go_num, fun x hx => ?_, (HP.out.below hb1).alloc _, (below_after HB.out hb1).alloc (by omega) _⟩, by simp [intOf]; omega⟩
          by_cases e : x = k
          · subst e
            rw [hLC.out.1, hLC.out.2]
            exact fun h => H2.out h.2
          · exact HJ.out x (by omega)
      · have he1 : ((L : Int) == n) = false := by simpa using h1
        have H1 := hidden h1
        clear h1 HR
        have HP := hidden hp
        have HB := hidden hb
        clear hp hb
        go_wp2_with fail
        refine (hat'.out _).mono ?_
        rintro e w1 ⟨rfl, hb1⟩
        obtain ⟨c0, c1, _, _⟩ := (HP.out.below hb1).facts
        have hsz : w.heap.size < w1.heap.size := (HP.out.below hb1).lt
        go_wp2
        refine ⟨⟨k + 1, by omega, by go_num, fun x hx => ?_, (HP.out.below hb1).alloc _, (below_after HB.out hb1).alloc (by omega) _⟩, by simp [intOf]; omega⟩
        by_cases e : x = k
        · subst e
          rw [hLC.out.1, hLC.out.2]
          exact fun h => H1.out h.1
        · exact HJ.out x (by omega)
    · obtain rfl : k = s.size + 1 := by omega
      have hR := hidden (HN.out fun x hx => HJ.out x (by simp at hx; omega))
      go_wp2
      go_ret2
      refine ⟨?_, hb⟩
      rw [hR.out]
      rfl

theorem rof_ok (s : ByteArray) (n c : Int) (x : Int) (ok : Bool) (w : World) (hs : s.size ≤ 1000000) (h : Hid (ofV s.data.toList n c = (x, ok))) :
    Calls Try.prog 12 #[.string s, .agg #[.int .i64 n, .int .i64 c]] w fun e w' => e = .returned (.tuple #[.int .i64 x, .bool ok]) ∧ Below w.heap.size w w' :=
  (rof_calls s n c w hs).mono fun e w' ⟨he, hb⟩ => ⟨he.trans (by rw [h.out]; rfl), hb⟩
theorem rline_out (s : ByteArray) (n : Int) (w : World) (hs : s.size ≤ 1000000) (h : n < 1 ∨ (1 ≤ n ∧ (s.data.toList.count 10 : Int) + 1 < n)) :
    Calls Try.prog 14 #[.string s, .int .i64 n] w fun e w' => e = .returned (.tuple #[.string ⟨#[]⟩, .bool false]) ∧ Below w.heap.size w w' := by
  have hr := hidden (fun W => rlines_calls s W hs)
  generalize s.data.toList.count 10 = c at *
  rcases h with h | ⟨h1, h2⟩
  · go_enter Try.func14, Try.ntmps14
    go_wp2
    go_ret2
    exact ⟨rfl, Below.refl _ _⟩
  · go_enter Try.func14, Try.ntmps14
    go_wp2_with fail
    refine (hr.out _).mono ?_
    rintro e w1 ⟨rfl, rfl⟩
    go_wp2
    go_ret2
    exact ⟨rfl, Below.refl _ _⟩
set_option maxRecDepth 100000 in
set_option maxHeartbeats 1000000 in
theorem rline_in (s : ByteArray) (n : Int) (w : World) (hs : s.size ≤ 1000000) (h1 : 1 ≤ n) (h2 : n ≤ (s.data.toList.count 10 : Int) + 1) :
    Calls Try.prog 14 #[.string s, .int .i64 n] w fun e w' => e = lineR s (lineV s.data.toList n) ∧ Below w.heap.size w w' := by
  obtain ⟨a, b, hcut, hl, hab, hbl, hof⟩ := lineV_some h1 h2
  have k := cut_at s.data.toList 0 _ a b hcut
  have hno := hidden k.none
  have hst := hidden k.stop
  rw [list_len] at hbl
  have hr := hidden (fun W => rlines_calls s W hs)
  have ho := hidden hof
  clear k hof hcut
  rw [hl]
  unfold lineR
  simp only
  clear hl
  generalize s.data.toList.count 10 = c at *
  go_enter Try.func14, Try.ntmps14
  go_wp2_with fail
  refine (hr.out _).mono ?_
  rintro e w1 ⟨rfl, rfl⟩
  go_wp2_with fail
  refine (rof_ok s n 1 a true _ hs ho).mono ?_
  rintro e w1 ⟨rfl, hb1⟩
  go_wp2
  go_loop [8] (fun i => ∃ j : Nat, a ≤ j ∧ j ≤ b ∧ i = .int .i64 j) (fun i => s.size - (intOf i).toNat)
  case atStart => exact ⟨a, Nat.le_refl _, hab, rfl⟩
  case round =>
    obtain ⟨j, hj1, hj2, rfl⟩ := hrel
    by_cases hlt : j < b
    · have hjs : j < s.size := by omega
      have hn0 := hno.out j hj1 hlt
      rw [Nat.sub_zero] at hn0
      have hcb : ((s[j].toNat : Int) != 10) = true := by
        rw [bne_iff_ne]
        intro e
        exact hn0 (byte_is hjs e)
      clear hn0
      go_wp2
      exact ⟨⟨j + 1, by omega, by omega, by go_num⟩, by simp [intOf]; omega⟩
    · obtain rfl : j = b := by omega
      by_cases hend : j < s.size
      · have hs0 : s.data.toList[j]? = some 10 := by
          rcases hst.out with g | g
          · simp at g
            omega
          · simpa using g
        have hcb : ((s[j].toNat : Int) != 10) = false := by simpa using byte_at_eq hend hs0
        clear hs0
        go_wp2
        go_ret2
        exact ⟨rfl, hb1⟩
      · go_wp2
        go_ret2
        exact ⟨rfl, hb1⟩
theorem rline_calls (s : ByteArray) (n : Int) (w : World) (hs : s.size ≤ 1000000) :
    Calls Try.prog 14 #[.string s, .int .i64 n] w fun e w' => e = lineR s (lineV s.data.toList n) ∧ Below w.heap.size w w' := by
  by_cases h : 1 ≤ n ∧ n ≤ (s.data.toList.count 10 : Int) + 1
  · exact rline_in s n w hs h.1 h.2
  · rw [lineV_none (by omega)]
    have e : s.extract 0 0 = ⟨#[]⟩ := by
      apply ByteArray.ext
      simp
    unfold lineR
    simp only
    rw [e]
    exact rline_out s n w hs (by omega)

theorem at_3 (w : World) : Calls Try.prog 9 #[.string ⟨#[97, 98, 10, 99]⟩, .int .i64 3] w fun e w' => e = .returned (.tuple #[.agg #[.int .i64 2, .int .i64 1], .bool true]) ∧ Below w.heap.size w w' :=
  (at_calls ⟨#[97, 98, 10, 99]⟩ 3 w (by decide) (by decide)).mono fun e w' ⟨he, hb⟩ => ⟨he.trans (spot_eq (by decide +kernel) (by decide +kernel)).symm, hb⟩
theorem move_57 (w : World) : Calls Try.prog 25 #[.agg #[.int .i64 5, .int .i64 7], .int .i64 1, .int .i64 2, .int .i64 4] w fun e w' => e = .returned (.tuple #[.agg #[.int .i64 7, .int .i64 9], .bool true]) ∧ Below w.heap.size w w' :=
  (move_calls 5 7 1 2 4 w).mono fun _ _ ⟨he, hb⟩ => ⟨he.trans rfl, hb⟩
theorem knows_calls (w : World) : Calls Try.prog 8 #[] w fun e w' => e = .returned (.bool true) ∧ Below w.heap.size w w' := by
  go_enter Try.func8, Try.ntmps8
  go_wp2_with fail
  refine (at_3 _).mono ?_
  rintro e w1 ⟨rfl, hb1⟩
  go_wp2_with fail
  refine (move_57 _).mono ?_
  rintro e w2 ⟨rfl, hb2⟩
  obtain ⟨c0, c1, _, _⟩ := ((PairAt.new 23 w1 2 1).below hb2).facts
  have hsz : w1.heap.size < w2.heap.size := by have := hb2.size; simp at this; omega
  go_wp2
  go_ret
  have h1 := hb1.size
  exact ⟨rfl, (below_then (hb1.alloc h1 _) (by simp; omega) hb2).alloc (by omega) _⟩
end Go.Proofs.Ytekpbhfbojijiaa
