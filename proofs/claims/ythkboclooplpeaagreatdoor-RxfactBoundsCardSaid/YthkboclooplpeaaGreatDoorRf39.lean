/- FaEvG, FaAsk, put together. -/
import Derived.Test.YthkboclooplpeaaGreatDoorRf15
import Derived.Deep.RegionHeld3
import Derived.Test.YthkboclooplpeaaGreatDoorRf04
import Derived.Test.YthkboclooplpeaaGreatDoorRf38
/- evaluate[int] with the operations of rxfact.setLength: take, apply, the whole. -/
namespace Go.Proofs.YthkboclooplpeaaGreatDoor
open Go.RowKit Go.Lib Go.Joins

/-- what waits: block B holds these, the last one at the end -/
def StkG (w : World) (B base : Nat) (X : List Int) : Prop := StkV w 27 3 1 B base X.length (X.map fun x => .int .i64 (x))
theorem StkG.below {w w' : World} {B base : Nat} {X : List Int} (h : StkG w B base X) (hb : Below w.heap.size w w') : StkG w' B base X := StkV.below h hb
set_option maxHeartbeats 2000000 in
set_option maxRecDepth 100000 in
theorem takeG_calls {w : World} {B base : Nat} {X : List Int} {x : Int} (h : StkG w B base (X ++ [x])) (hX : X.length ≤ 1000) :
    Calls Tryz.prog 82 #[.pointer (some ⟨B, 0, none⟩)] w fun e w' => e = .returned (.int .i64 (x)) ∧ StkG w' B base X ∧ w.grownBy w' (some B) := by
  obtain ⟨g, cap, h1, h2⟩ := h
  simp only [List.length_append, List.length_cons, List.length_nil, List.map_append, List.map_cons, List.map_nil] at h1 h2
  have hcx : w.cell? ⟨g, X.length, none⟩ = some (.int .i64 (x)) := by
    rw [World.ownsRow.cellAt h2 X.length (by omega), List.getElem?_append_right (by simp)]
    simp
  have hcap : X.length + 1 ≤ cap := by
    rcases h2.2 with ⟨e, _⟩ | ⟨g', cap', cur, e, _, _, hn, _⟩
    · cases e
    · simp only [Value.slice.injEq, Option.some.injEq, Addr.mk.injEq, and_true, true_and] at e
      omega
  have hb := h1.cell
  have hf := h1.frozen
  have HP := hidden (StkV.pop (by simp) h1 h2 (by decide))
  obtain ⟨n, hn⟩ : ∃ n, n = X.length := ⟨_, rfl⟩
  unfold StkG
  rw [← hn] at hb hcx hX HP hcap ⊢
  have hw : IntKind.i64.wrap (((n + 1 : Nat) : Int) - 1) = n := by rw [IntKind.wrap_i64]; omega
  have hd : decide ((n : Int) < 0) = false := decide_eq_false (by omega)
  have hw2 : ((n + 1 : Nat) : Int) - 1 = n := by omega
  clear h1 h2 hn
  go_enter Tryz.func82, Tryz.ntmps82
  go_wp2
  go_ret
  exact ⟨rfl, HP.out, gb_set B 0 _⟩
def OkG (x : Int) : Prop := -2 ≤ x ∧ x ≤ 1000
theorem okG (e : Ex) (h : (ops e).length ≤ 600) : OkG (loE e) := by
  have := lo_range e
  unfold OkG
  omega
theorem none_sameG (f : Nat → Bool) : sameSet f fNone = noneF f := by
  rw [Bool.eq_iff_iff, same_iff, noneF_iff]
  rfl
set_option maxRecDepth 100000 in
theorem doG1_calls (f : Nat → Bool) (w : World) : Calls Tryz.prog 46 #[(.agg #[.int .u64 (word (f) 0), .int .u64 (word (f) 1), .int .u64 (word (f) 2), .int .u64 (word (f) 3)])] w fun e w' => e = .returned (.int .i64 (if noneF f = true then -1 else 1)) ∧ Below w.heap.size w w' := by
  have hq := fun w => eq_none w f
  simp only [none_sameG] at hq
  obtain ⟨x, hx⟩ : ∃ x, x = noneF f := ⟨_, rfl⟩
  rw [← hx]
  simp only [← hx] at hq
  clear hx
  cases x
  all_goals
    go_enter Tryz.func46, Tryz.ntmps46
    go_wp2
    go_ret
    exact ⟨ret_i (by rfl), by go_grown⟩
set_option maxRecDepth 100000 in
theorem doG2_calls (w : World) : Calls Tryz.prog 54 #[] w fun e w' => e = .returned (.int .i64 0) ∧ Below w.heap.size w w' := by
  go_enter Tryz.func54, Tryz.ntmps54
  go_wp2
  go_ret
  exact ⟨ret_i (by rfl), by go_grown⟩
set_option maxRecDepth 100000 in
theorem doG3_calls (x y : Int) (w : World) (hx : OkG x) (hy : OkG y) : Calls Tryz.prog 55 #[.int .i64 x, .int .i64 y] w fun e w' => e = .returned (.int .i64 (if x = -1 ∨ y = -1 then -1 else if x = -2 ∨ y = -2 then -2 else x + y)) ∧ Below w.heap.size w w' := by
  unfold OkG at hx hy
  have hadd : IntKind.i64.wrap (x + y) = x + y := by rw [IntKind.wrap_i64]; omega
  obtain ⟨r, hr⟩ : ∃ r, r = if x = -1 ∨ y = -1 then -1 else if x = -2 ∨ y = -2 then -2 else x + y := ⟨_, rfl⟩
  rw [← hr]
  have hc : (x = -1 ∧ r = -1) ∨ (x ≠ -1 ∧ y = -1 ∧ r = -1) ∨ (x = -2 ∧ y ≠ -1 ∧ r = -2) ∨ (x ≠ -1 ∧ x ≠ -2 ∧ y = -2 ∧ r = -2) ∨ (x ≠ -1 ∧ x ≠ -2 ∧ y ≠ -1 ∧ y ≠ -2 ∧ r = x + y) := by
    by_cases c1 : x = -1
    · exact .inl ⟨c1, by rw [hr, if_pos (.inl c1)]⟩
    · by_cases c2 : y = -1
      · exact .inr (.inl ⟨c1, c2, by rw [hr, if_pos (.inr c2)]⟩)
      · have c12 : ¬ (x = -1 ∨ y = -1) := by omega
        by_cases c3 : x = -2
        · exact .inr (.inr (.inl ⟨c3, c2, by rw [hr, if_neg c12, if_pos (.inl c3)]⟩))
        · by_cases c4 : y = -2
          · exact .inr (.inr (.inr (.inl ⟨c1, c3, c4, by rw [hr, if_neg c12, if_pos (.inr c4)]⟩)))
          · have c34 : ¬ (x = -2 ∨ y = -2) := by omega
            exact .inr (.inr (.inr (.inr ⟨c1, c3, c2, c4, by rw [hr, if_neg c12, if_neg c34]⟩)))
  clear hr
  rcases hc with ⟨h1, hr⟩ | ⟨h1, h2, hr⟩ | ⟨h1, h2, hr⟩ | ⟨h1, h2, h3, hr⟩ | ⟨h1, h2, h3, h4, hr⟩
  · have ex1 : (x == -1) = true := by simp; omega
    have HR := hidden hr
    clear hr hx hy h1
    go_enter Tryz.func55, Tryz.ntmps55
    go_wp2
    go_ret
    exact ⟨ret_i (by exact HR.out.symm), by go_grown⟩
  · have ex1 : (x == -1) = false := by simp; omega
    have ey1 : (y == -1) = true := by simp; omega
    have HR := hidden hr
    clear hr hx hy h1 h2
    go_enter Tryz.func55, Tryz.ntmps55
    go_wp2
    go_ret
    exact ⟨ret_i (by exact HR.out.symm), by go_grown⟩
  · have ex1 : (x == -1) = false := by simp; omega
    have ey1 : (y == -1) = false := by simp; omega
    have ex2 : (x == -2) = true := by simp; omega
    have HR := hidden hr
    clear hr hx hy h1 h2
    go_enter Tryz.func55, Tryz.ntmps55
    go_wp2
    go_ret
    exact ⟨ret_i (by exact HR.out.symm), by go_grown⟩
  · have ex1 : (x == -1) = false := by simp; omega
    have ey1 : (y == -1) = false := by simp; omega
    have ex2 : (x == -2) = false := by simp; omega
    have ey2 : (y == -2) = true := by simp; omega
    have HR := hidden hr
    clear hr hx hy h1 h2 h3
    go_enter Tryz.func55, Tryz.ntmps55
    go_wp2
    go_ret
    exact ⟨ret_i (by exact HR.out.symm), by go_grown⟩
  · have ex1 : (x == -1) = false := by simp; omega
    have ey1 : (y == -1) = false := by simp; omega
    have ex2 : (x == -2) = false := by simp; omega
    have ey2 : (y == -2) = false := by simp; omega
    have HR := hidden hr
    clear hr hx hy h1 h2 h3 h4
    go_enter Tryz.func55, Tryz.ntmps55
    go_wp2
    go_ret
    exact ⟨ret_i (by exact HR.out.symm), by go_grown⟩
set_option maxRecDepth 100000 in
theorem doG4_calls (x y : Int) (w : World) (_ : OkG x) (_ : OkG y) : Calls Tryz.prog 56 #[.int .i64 x, .int .i64 y] w fun e w' => e = .returned (.int .i64 (lgr x y)) ∧ Below w.heap.size w w' := by
  have hc := lgr_spec x y
  generalize lgr x y = r at *
  have hc : (x = -2 ∧ r = -2) ∨ (x ≠ -2 ∧ y = -2 ∧ r = -2) ∨ (x ≠ -2 ∧ y ≠ -2 ∧ r = max x y) := by omega
  rcases hc with ⟨h1, hr⟩ | ⟨h1, h2, hr⟩ | ⟨h1, h2, hr⟩
  · have ex2 : (x == -2) = true := by simp; omega
    have HR := hidden hr
    clear hr h1
    go_enter Tryz.func56, Tryz.ntmps56
    go_wp2
    all_goals
      go_ret
      exact ⟨ret_i (by have := HR.out; omega), by go_grown⟩
  · have ex2 : (x == -2) = false := by simp; omega
    have ey2 : (y == -2) = true := by simp; omega
    have HR := hidden hr
    clear hr h1 h2
    go_enter Tryz.func56, Tryz.ntmps56
    go_wp2
    all_goals
      go_ret
      exact ⟨ret_i (by have := HR.out; omega), by go_grown⟩
  · have ex2 : (x == -2) = false := by simp; omega
    have ey2 : (y == -2) = false := by simp; omega
    have HR := hidden hr
    clear hr h1 h2
    go_enter Tryz.func56, Tryz.ntmps56
    go_wp2
    all_goals
      go_ret
      exact ⟨ret_i (by have := HR.out; omega), by go_grown⟩
set_option maxRecDepth 100000 in
theorem doG6_calls (x : Int) (w : World) (_ : OkG x) : Calls Tryz.prog 58 #[.int .i64 x] w fun e w' => e = .returned (.int .i64 (rep x)) ∧ Below w.heap.size w w' := by
  have hc := rep_spec x
  generalize rep x = r at *
  rcases hc with ⟨h1, hr⟩ | ⟨h1, hr⟩
  · have d1 : decide (0 < x) = true := decide_eq_true h1
    have HR := hidden hr
    clear hr h1
    go_enter Tryz.func58, Tryz.ntmps58
    go_wp2
    go_ret
    exact ⟨ret_i (by exact HR.out.symm), by go_grown⟩
  · have d1 : decide (0 < x) = false := decide_eq_false (by omega)
    have HR := hidden hr
    clear hr h1
    go_enter Tryz.func58, Tryz.ntmps58
    go_wp2
    go_ret
    exact ⟨ret_i (by exact HR.out.symm), by go_grown⟩
set_option maxRecDepth 100000 in
theorem doG5_calls (x : Int) (w : World) (hx : OkG x) : Calls Tryz.prog 57 #[.int .i64 x] w fun e w' => e = .returned (.int .i64 (lgr (rep x) 0)) ∧ Below w.heap.size w w' := by
  have hr : OkG (rep x) := by
    have := rep_spec x
    unfold OkG at *
    omega
  have H1 := hidden (fun W => doG6_calls x W hx)
  have H2 := hidden (fun W => doG4_calls (rep x) 0 W hr (by unfold OkG; omega))
  generalize rep x = y at *
  clear hx hr
  go_enter Tryz.func57, Tryz.ntmps57
  go_wp2_with fail
  refine (H1.out _).mono ?_
  rintro e w1 ⟨rfl, hb1⟩
  have HB := hidden hb1
  clear hb1
  go_wp2_with fail
  refine (H2.out _).mono ?_
  rintro e w2 ⟨rfl, hb2⟩
  have HB2 := hidden (below_after HB.out hb2)
  clear hb2
  go_wp2
  go_ret
  exact ⟨rfl, HB2.out⟩
set_option maxRecDepth 100000 in
theorem doG7_calls (x : Int) (w : World) (hx : OkG x) : Calls Tryz.prog 59 #[.int .i64 x] w fun e w' => e = .returned (.int .i64 (lgr x 0)) ∧ Below w.heap.size w w' := by
  have H2 := hidden (fun W => doG4_calls x 0 W hx (by unfold OkG; omega))
  clear hx
  go_enter Tryz.func59, Tryz.ntmps59
  go_wp2_with fail
  refine (H2.out _).mono ?_
  rintro e w2 ⟨rfl, hb2⟩
  have HB2 := hidden hb2
  clear hb2
  go_wp2
  go_ret
  exact ⟨rfl, HB2.out⟩
/-- the two boxes of apply, behind whatever take has done -/
theorem boxesG {w w2 : World} {B : Nat} {s : Stp} (hB : B < w.heap.size) (hg : ((w.alloc (.cells #[.int .i64 s.k, .int .u64 s.a, .int .u64 s.b, .int .u64 s.c, .int .u64 s.d] 73)).alloc (.cells #[.func (.func 46) #[] #[], .func (.func 54) #[] #[], .func (.func 55) #[] #[], .func (.func 56) #[] #[], .func (.func 57) #[] #[], .func (.func 58) #[] #[], .func (.func 59) #[] #[]] 63)).grownBy w2 (some B)) :
    w2.cell? ⟨w.heap.size, 0, none⟩ = some (.int .i64 s.k) ∧ (∀ j v, (#[.func (.func 46) #[] #[], .func (.func 54) #[] #[], .func (.func 55) #[] #[], .func (.func 56) #[] #[], .func (.func 57) #[] #[], .func (.func 58) #[] #[], .func (.func 59) #[] #[]] : Array Value)[j]? = some v → w2.cell? ⟨w.heap.size + 1, j, none⟩ = some v) := by
  have h1 := (hg.block w.heap.size (by simp; omega) (by simp; omega)).trans (heap_alloc2_old w _ _)
  have h2 := (hg.block (w.heap.size + 1) (by simp) (by simp; omega)).trans (heap_alloc2_new w _ _)
  exact ⟨cell_of_row w2 _ 0 _ _ _ h1, fun j v hj => (cell_of_row w2 _ j _ _ _ h2).trans hj⟩
set_option maxHeartbeats 8000000 in
set_option maxRecDepth 100000 in
theorem applyG_set {w : World} {B base : Nat} {s : Stp} {X : List Int} {f : Nat → Bool} (ha : s.a = word f 0) (hb : s.b = word f 1) (hc : s.c = word f 2) (hd : s.d = word f 3) (hk : s.k = 1) (h : StkG w B base X) (_ : X.length ≤ 1000) :
    Calls Tryz.prog 83 #[s.val, .agg #[.func (.func 46) #[] #[], .func (.func 54) #[] #[], .func (.func 55) #[] #[], .func (.func 56) #[] #[], .func (.func 57) #[] #[], .func (.func 58) #[] #[], .func (.func 59) #[] #[]], .func (.func 82) #[] #[.pointer (some ⟨B, 0, none⟩)]] w fun e w' => e = .returned (.int .i64 (if noneF f = true then -1 else 1)) ∧ StkG w' B base X ∧ w.grownBy w' (some B) := by
  have hB := StkV.lt h
  obtain ⟨k, a, b, c, d⟩ := s
  simp only at hk ha hb hc hd
  subst hk ha hb hc hd
  have HS := hidden (StkG.below h ((Below.refl w.heap.size w).alloc (Nat.le_refl _) (.cells #[.int .i64 1, .int .u64 (word (f) 0), .int .u64 (word (f) 1), .int .u64 (word (f) 2), .int .u64 (word (f) 3)] 73)))
  have HS2 := hidden (StkG.below HS.out ((Below.refl _ _).alloc (Nat.le_refl _) (.cells #[.func (.func 46) #[] #[], .func (.func 54) #[] #[], .func (.func 55) #[] #[], .func (.func 56) #[] #[], .func (.func 57) #[] #[], .func (.func 58) #[] #[], .func (.func 59) #[] #[]] 63)))
  have HG := hidden (gb_trans (gb_alloc (w := w) (row := some B) (.cells #[.int .i64 1, .int .u64 (word (f) 0), .int .u64 (word (f) 1), .int .u64 (word (f) 2), .int .u64 (word (f) 3)] 73)) (gb_alloc (.cells #[.func (.func 46) #[] #[], .func (.func 54) #[] #[], .func (.func 55) #[] #[], .func (.func 56) #[] #[], .func (.func 57) #[] #[], .func (.func 58) #[] #[], .func (.func 59) #[] #[]] 63)))
  have HBX := hidden (fun w2 => boxesG (w := w) (w2 := w2) (B := B) (s := ⟨1, word f 0, word f 1, word f 2, word f 3⟩) hB)
  clear h
  unfold Stp.val
  have HD := hidden (fun W => doG1_calls f W)
  generalize (if noneF f = true then -1 else 1) = res at *
  go_enter Tryz.func83, Tryz.ntmps83
  go_wp2_with fail
  refine (HD.out _).mono ?_
  rintro e w1 ⟨rfl, hb1⟩
  have H1 := hidden (StkG.below HS2.out hb1)
  have HG1 := hidden (gb_trans HG.out (gb_below hb1))
  clear hb1
  go_wp2
  go_ret
  exact ⟨rfl, H1.out, HG1.out⟩
set_option maxHeartbeats 8000000 in
set_option maxRecDepth 100000 in
theorem applyG_emp {w : World} {B base : Nat} {s : Stp} {X : List Int} (hk : s.k = 2) (h : StkG w B base X) (_ : X.length ≤ 1000) :
    Calls Tryz.prog 83 #[s.val, .agg #[.func (.func 46) #[] #[], .func (.func 54) #[] #[], .func (.func 55) #[] #[], .func (.func 56) #[] #[], .func (.func 57) #[] #[], .func (.func 58) #[] #[], .func (.func 59) #[] #[]], .func (.func 82) #[] #[.pointer (some ⟨B, 0, none⟩)]] w fun e w' => e = .returned (.int .i64 (0)) ∧ StkG w' B base X ∧ w.grownBy w' (some B) := by
  have hB := StkV.lt h
  obtain ⟨k, a, b, c, d⟩ := s
  simp only at hk
  subst hk
  have HS := hidden (StkG.below h ((Below.refl w.heap.size w).alloc (Nat.le_refl _) (.cells #[.int .i64 2, .int .u64 a, .int .u64 b, .int .u64 c, .int .u64 d] 73)))
  have HS2 := hidden (StkG.below HS.out ((Below.refl _ _).alloc (Nat.le_refl _) (.cells #[.func (.func 46) #[] #[], .func (.func 54) #[] #[], .func (.func 55) #[] #[], .func (.func 56) #[] #[], .func (.func 57) #[] #[], .func (.func 58) #[] #[], .func (.func 59) #[] #[]] 63)))
  have HG := hidden (gb_trans (gb_alloc (w := w) (row := some B) (.cells #[.int .i64 2, .int .u64 a, .int .u64 b, .int .u64 c, .int .u64 d] 73)) (gb_alloc (.cells #[.func (.func 46) #[] #[], .func (.func 54) #[] #[], .func (.func 55) #[] #[], .func (.func 56) #[] #[], .func (.func 57) #[] #[], .func (.func 58) #[] #[], .func (.func 59) #[] #[]] 63)))
  have HBX := hidden (fun w2 => boxesG (w := w) (w2 := w2) (B := B) (s := ⟨2, a, b, c, d⟩) hB)
  clear h
  unfold Stp.val
  go_enter Tryz.func83, Tryz.ntmps83
  go_wp2_with fail
  refine (doG2_calls _).mono ?_
  rintro e w1 ⟨rfl, hb1⟩
  have H1 := hidden (StkG.below HS2.out hb1)
  have HG1 := hidden (gb_trans HG.out (gb_below hb1))
  clear hb1
  go_wp2
  go_ret
  exact ⟨rfl, H1.out, HG1.out⟩
set_option maxHeartbeats 8000000 in
set_option maxRecDepth 100000 in
theorem applyG_star {w : World} {B base : Nat} {s : Stp} {X : List Int} {x : Int} (hk : s.k = 5) (h : StkG w B base (X ++ [x])) (hX : X.length ≤ 1000) (hx : OkG x) :
    Calls Tryz.prog 83 #[s.val, .agg #[.func (.func 46) #[] #[], .func (.func 54) #[] #[], .func (.func 55) #[] #[], .func (.func 56) #[] #[], .func (.func 57) #[] #[], .func (.func 58) #[] #[], .func (.func 59) #[] #[]], .func (.func 82) #[] #[.pointer (some ⟨B, 0, none⟩)]] w fun e w' => e = .returned (.int .i64 (lgr (rep x) 0)) ∧ StkG w' B base X ∧ w.grownBy w' (some B) := by
  have hB := StkV.lt h
  obtain ⟨k, a, b, c, d⟩ := s
  simp only at hk
  subst hk
  have HS := hidden (StkG.below h ((Below.refl w.heap.size w).alloc (Nat.le_refl _) (.cells #[.int .i64 5, .int .u64 a, .int .u64 b, .int .u64 c, .int .u64 d] 73)))
  have HS2 := hidden (StkG.below HS.out ((Below.refl _ _).alloc (Nat.le_refl _) (.cells #[.func (.func 46) #[] #[], .func (.func 54) #[] #[], .func (.func 55) #[] #[], .func (.func 56) #[] #[], .func (.func 57) #[] #[], .func (.func 58) #[] #[], .func (.func 59) #[] #[]] 63)))
  have HG := hidden (gb_trans (gb_alloc (w := w) (row := some B) (.cells #[.int .i64 5, .int .u64 a, .int .u64 b, .int .u64 c, .int .u64 d] 73)) (gb_alloc (.cells #[.func (.func 46) #[] #[], .func (.func 54) #[] #[], .func (.func 55) #[] #[], .func (.func 56) #[] #[], .func (.func 57) #[] #[], .func (.func 58) #[] #[], .func (.func 59) #[] #[]] 63)))
  have HBX := hidden (fun w2 => boxesG (w := w) (w2 := w2) (B := B) (s := ⟨5, a, b, c, d⟩) hB)
  clear h
  unfold Stp.val
  have HTK := hidden (takeG_calls (w := ((w.alloc (.cells #[.int .i64 5, .int .u64 a, .int .u64 b, .int .u64 c, .int .u64 d] 73)).alloc (.cells #[.func (.func 46) #[] #[], .func (.func 54) #[] #[], .func (.func 55) #[] #[], .func (.func 56) #[] #[], .func (.func 57) #[] #[], .func (.func 58) #[] #[], .func (.func 59) #[] #[]] 63)).drew) (B := B) (base := base) (X := X) (x := x) (StkV.drew HS2.out) hX)
  have HBX2 := hidden (fun w2 hg => (HBX.out w2 (gb_trans gb_drew hg)).2)
  go_enter Tryz.func83, Tryz.ntmps83
  go_wp2
  go_region_with (first
    | (go_at_call 82; refine HTK.out.mono ?_; rintro e w2 ⟨rfl, hs2, hg2⟩; have HS3 := hidden hs2; have HG3 := hidden hg2; have d4 := HBX2.out w2 hg2 4 _ rfl; clear hs2 hg2)
    | (go_at_call 57; refine (doG5_calls x _ hx).mono ?_; rintro e w3 ⟨rfl, hb3⟩; have HS4 := hidden (StkG.below HS3.out hb3); have HG4 := hidden (gb_trans (gb_trans HG.out gb_drew) (gb_trans HG3.out (gb_below hb3))); clear hb3))
  all_goals
    go_wp2
    go_ret
    exact ⟨rfl, HS4.out, HG4.out⟩
set_option maxHeartbeats 8000000 in
set_option maxRecDepth 100000 in
theorem applyG_plus {w : World} {B base : Nat} {s : Stp} {X : List Int} {x : Int} (hk : s.k = 6) (h : StkG w B base (X ++ [x])) (hX : X.length ≤ 1000) (hx : OkG x) :
    Calls Tryz.prog 83 #[s.val, .agg #[.func (.func 46) #[] #[], .func (.func 54) #[] #[], .func (.func 55) #[] #[], .func (.func 56) #[] #[], .func (.func 57) #[] #[], .func (.func 58) #[] #[], .func (.func 59) #[] #[]], .func (.func 82) #[] #[.pointer (some ⟨B, 0, none⟩)]] w fun e w' => e = .returned (.int .i64 (rep x)) ∧ StkG w' B base X ∧ w.grownBy w' (some B) := by
  have hB := StkV.lt h
  obtain ⟨k, a, b, c, d⟩ := s
  simp only at hk
  subst hk
  have HS := hidden (StkG.below h ((Below.refl w.heap.size w).alloc (Nat.le_refl _) (.cells #[.int .i64 6, .int .u64 a, .int .u64 b, .int .u64 c, .int .u64 d] 73)))
  have HS2 := hidden (StkG.below HS.out ((Below.refl _ _).alloc (Nat.le_refl _) (.cells #[.func (.func 46) #[] #[], .func (.func 54) #[] #[], .func (.func 55) #[] #[], .func (.func 56) #[] #[], .func (.func 57) #[] #[], .func (.func 58) #[] #[], .func (.func 59) #[] #[]] 63)))
  have HG := hidden (gb_trans (gb_alloc (w := w) (row := some B) (.cells #[.int .i64 6, .int .u64 a, .int .u64 b, .int .u64 c, .int .u64 d] 73)) (gb_alloc (.cells #[.func (.func 46) #[] #[], .func (.func 54) #[] #[], .func (.func 55) #[] #[], .func (.func 56) #[] #[], .func (.func 57) #[] #[], .func (.func 58) #[] #[], .func (.func 59) #[] #[]] 63)))
  have HBX := hidden (fun w2 => boxesG (w := w) (w2 := w2) (B := B) (s := ⟨6, a, b, c, d⟩) hB)
  clear h
  unfold Stp.val
  have HTK := hidden (takeG_calls (w := ((w.alloc (.cells #[.int .i64 6, .int .u64 a, .int .u64 b, .int .u64 c, .int .u64 d] 73)).alloc (.cells #[.func (.func 46) #[] #[], .func (.func 54) #[] #[], .func (.func 55) #[] #[], .func (.func 56) #[] #[], .func (.func 57) #[] #[], .func (.func 58) #[] #[], .func (.func 59) #[] #[]] 63)).drew) (B := B) (base := base) (X := X) (x := x) (StkV.drew HS2.out) hX)
  have HBX2 := hidden (fun w2 hg => (HBX.out w2 (gb_trans gb_drew hg)).2)
  go_enter Tryz.func83, Tryz.ntmps83
  go_wp2
  go_region_with (first
    | (go_at_call 82; refine HTK.out.mono ?_; rintro e w2 ⟨rfl, hs2, hg2⟩; have HS3 := hidden hs2; have HG3 := hidden hg2; have d5 := HBX2.out w2 hg2 5 _ rfl; clear hs2 hg2)
    | (go_at_call 58; refine (doG6_calls x _ hx).mono ?_; rintro e w3 ⟨rfl, hb3⟩; have HS4 := hidden (StkG.below HS3.out hb3); have HG4 := hidden (gb_trans (gb_trans HG.out gb_drew) (gb_trans HG3.out (gb_below hb3))); clear hb3))
  all_goals
    go_wp2
    go_ret
    exact ⟨rfl, HS4.out, HG4.out⟩
set_option maxHeartbeats 8000000 in
set_option maxRecDepth 100000 in
theorem applyG_opt {w : World} {B base : Nat} {s : Stp} {X : List Int} {x : Int} (hk : s.k = 7) (h : StkG w B base (X ++ [x])) (hX : X.length ≤ 1000) (hx : OkG x) :
    Calls Tryz.prog 83 #[s.val, .agg #[.func (.func 46) #[] #[], .func (.func 54) #[] #[], .func (.func 55) #[] #[], .func (.func 56) #[] #[], .func (.func 57) #[] #[], .func (.func 58) #[] #[], .func (.func 59) #[] #[]], .func (.func 82) #[] #[.pointer (some ⟨B, 0, none⟩)]] w fun e w' => e = .returned (.int .i64 (lgr x 0)) ∧ StkG w' B base X ∧ w.grownBy w' (some B) := by
  have hB := StkV.lt h
  obtain ⟨k, a, b, c, d⟩ := s
  simp only at hk
  subst hk
  have HS := hidden (StkG.below h ((Below.refl w.heap.size w).alloc (Nat.le_refl _) (.cells #[.int .i64 7, .int .u64 a, .int .u64 b, .int .u64 c, .int .u64 d] 73)))
  have HS2 := hidden (StkG.below HS.out ((Below.refl _ _).alloc (Nat.le_refl _) (.cells #[.func (.func 46) #[] #[], .func (.func 54) #[] #[], .func (.func 55) #[] #[], .func (.func 56) #[] #[], .func (.func 57) #[] #[], .func (.func 58) #[] #[], .func (.func 59) #[] #[]] 63)))
  have HG := hidden (gb_trans (gb_alloc (w := w) (row := some B) (.cells #[.int .i64 7, .int .u64 a, .int .u64 b, .int .u64 c, .int .u64 d] 73)) (gb_alloc (.cells #[.func (.func 46) #[] #[], .func (.func 54) #[] #[], .func (.func 55) #[] #[], .func (.func 56) #[] #[], .func (.func 57) #[] #[], .func (.func 58) #[] #[], .func (.func 59) #[] #[]] 63)))
  have HBX := hidden (fun w2 => boxesG (w := w) (w2 := w2) (B := B) (s := ⟨7, a, b, c, d⟩) hB)
  clear h
  unfold Stp.val
  have HTK := hidden (takeG_calls (w := ((w.alloc (.cells #[.int .i64 7, .int .u64 a, .int .u64 b, .int .u64 c, .int .u64 d] 73)).alloc (.cells #[.func (.func 46) #[] #[], .func (.func 54) #[] #[], .func (.func 55) #[] #[], .func (.func 56) #[] #[], .func (.func 57) #[] #[], .func (.func 58) #[] #[], .func (.func 59) #[] #[]] 63)).drew) (B := B) (base := base) (X := X) (x := x) (StkV.drew HS2.out) hX)
  have HBX2 := hidden (fun w2 hg => (HBX.out w2 (gb_trans gb_drew hg)).2)
  go_enter Tryz.func83, Tryz.ntmps83
  go_wp2
  go_region_with (first
    | (go_at_call 82; refine HTK.out.mono ?_; rintro e w2 ⟨rfl, hs2, hg2⟩; have HS3 := hidden hs2; have HG3 := hidden hg2; have d6 := HBX2.out w2 hg2 6 _ rfl; clear hs2 hg2)
    | (go_at_call 59; refine (doG7_calls x _ hx).mono ?_; rintro e w3 ⟨rfl, hb3⟩; have HS4 := hidden (StkG.below HS3.out hb3); have HG4 := hidden (gb_trans (gb_trans HG.out gb_drew) (gb_trans HG3.out (gb_below hb3))); clear hb3))
  all_goals
    go_wp2
    go_ret
    exact ⟨rfl, HS4.out, HG4.out⟩
set_option maxHeartbeats 8000000 in
set_option maxRecDepth 100000 in
theorem applyG_cat {w : World} {B base : Nat} {s : Stp} {X : List Int} {x y : Int} (hk : s.k = 3) (h : StkG w B base (X ++ [x, y])) (hX : X.length ≤ 999) (hx : OkG x) (hy : OkG y) :
    Calls Tryz.prog 83 #[s.val, .agg #[.func (.func 46) #[] #[], .func (.func 54) #[] #[], .func (.func 55) #[] #[], .func (.func 56) #[] #[], .func (.func 57) #[] #[], .func (.func 58) #[] #[], .func (.func 59) #[] #[]], .func (.func 82) #[] #[.pointer (some ⟨B, 0, none⟩)]] w fun e w' => e = .returned (.int .i64 (if x = -1 ∨ y = -1 then -1 else if x = -2 ∨ y = -2 then -2 else x + y)) ∧ StkG w' B base X ∧ w.grownBy w' (some B) := by
  have hB := StkV.lt h
  obtain ⟨k, a, b, c, d⟩ := s
  simp only at hk
  subst hk
  have HS := hidden (StkG.below h ((Below.refl w.heap.size w).alloc (Nat.le_refl _) (.cells #[.int .i64 3, .int .u64 a, .int .u64 b, .int .u64 c, .int .u64 d] 73)))
  have HS2 := hidden (StkG.below HS.out ((Below.refl _ _).alloc (Nat.le_refl _) (.cells #[.func (.func 46) #[] #[], .func (.func 54) #[] #[], .func (.func 55) #[] #[], .func (.func 56) #[] #[], .func (.func 57) #[] #[], .func (.func 58) #[] #[], .func (.func 59) #[] #[]] 63)))
  have HG := hidden (gb_trans (gb_alloc (w := w) (row := some B) (.cells #[.int .i64 3, .int .u64 a, .int .u64 b, .int .u64 c, .int .u64 d] 73)) (gb_alloc (.cells #[.func (.func 46) #[] #[], .func (.func 54) #[] #[], .func (.func 55) #[] #[], .func (.func 56) #[] #[], .func (.func 57) #[] #[], .func (.func 58) #[] #[], .func (.func 59) #[] #[]] 63)))
  have HBX := hidden (fun w2 => boxesG (w := w) (w2 := w2) (B := B) (s := ⟨3, a, b, c, d⟩) hB)
  clear h
  unfold Stp.val
  have HD := hidden (fun W => doG3_calls x y W hx hy)
  generalize (if x = -1 ∨ y = -1 then -1 else if x = -2 ∨ y = -2 then -2 else x + y) = res at *
  have hX1 : (X ++ [x]).length ≤ 1000 := by simp; omega
  rw [show X ++ [x, y] = (X ++ [x]) ++ [y] by simp] at HS2
  have HTK := hidden (takeG_calls (w := ((w.alloc (.cells #[.int .i64 3, .int .u64 a, .int .u64 b, .int .u64 c, .int .u64 d] 73)).alloc (.cells #[.func (.func 46) #[] #[], .func (.func 54) #[] #[], .func (.func 55) #[] #[], .func (.func 56) #[] #[], .func (.func 57) #[] #[], .func (.func 58) #[] #[], .func (.func 59) #[] #[]] 63))) (B := B) (base := base) (X := X ++ [x]) (x := y) HS2.out hX1)
  go_enter Tryz.func83, Tryz.ntmps83
  go_wp2_with fail
  refine HTK.out.mono ?_
  rintro e w2 ⟨rfl, hs2, hg2⟩
  have HS3 := hidden hs2
  have HG3 := hidden hg2
  clear hs2 hg2
  go_wp2_with fail
  refine (takeG_calls HS3.out (by omega)).mono ?_
  rintro e w3 ⟨rfl, hs3, hg3⟩
  have HS4 := hidden hs3
  have HG4 := hidden (gb_trans HG3.out hg3)
  have c0 := (HBX.out w3 HG4.out).1
  have d2 := (HBX.out w3 HG4.out).2 2 _ rfl
  clear hs3 hg3
  go_wp2_with fail
  refine (HD.out _).mono ?_
  rintro e w4 ⟨rfl, hb4⟩
  have HS5 := hidden (StkG.below HS4.out hb4)
  have HG5 := hidden (gb_trans HG.out (gb_trans HG4.out (gb_below hb4)))
  clear hb4
  go_wp2
  go_ret
  exact ⟨rfl, HS5.out, HG5.out⟩
set_option maxHeartbeats 8000000 in
set_option maxRecDepth 100000 in
theorem applyG_alt {w : World} {B base : Nat} {s : Stp} {X : List Int} {x y : Int} (hk : s.k = 4) (h : StkG w B base (X ++ [x, y])) (hX : X.length ≤ 999) (hx : OkG x) (hy : OkG y) :
    Calls Tryz.prog 83 #[s.val, .agg #[.func (.func 46) #[] #[], .func (.func 54) #[] #[], .func (.func 55) #[] #[], .func (.func 56) #[] #[], .func (.func 57) #[] #[], .func (.func 58) #[] #[], .func (.func 59) #[] #[]], .func (.func 82) #[] #[.pointer (some ⟨B, 0, none⟩)]] w fun e w' => e = .returned (.int .i64 (lgr x y)) ∧ StkG w' B base X ∧ w.grownBy w' (some B) := by
  have hB := StkV.lt h
  obtain ⟨k, a, b, c, d⟩ := s
  simp only at hk
  subst hk
  have HS := hidden (StkG.below h ((Below.refl w.heap.size w).alloc (Nat.le_refl _) (.cells #[.int .i64 4, .int .u64 a, .int .u64 b, .int .u64 c, .int .u64 d] 73)))
  have HS2 := hidden (StkG.below HS.out ((Below.refl _ _).alloc (Nat.le_refl _) (.cells #[.func (.func 46) #[] #[], .func (.func 54) #[] #[], .func (.func 55) #[] #[], .func (.func 56) #[] #[], .func (.func 57) #[] #[], .func (.func 58) #[] #[], .func (.func 59) #[] #[]] 63)))
  have HG := hidden (gb_trans (gb_alloc (w := w) (row := some B) (.cells #[.int .i64 4, .int .u64 a, .int .u64 b, .int .u64 c, .int .u64 d] 73)) (gb_alloc (.cells #[.func (.func 46) #[] #[], .func (.func 54) #[] #[], .func (.func 55) #[] #[], .func (.func 56) #[] #[], .func (.func 57) #[] #[], .func (.func 58) #[] #[], .func (.func 59) #[] #[]] 63)))
  have HBX := hidden (fun w2 => boxesG (w := w) (w2 := w2) (B := B) (s := ⟨4, a, b, c, d⟩) hB)
  clear h
  unfold Stp.val
  have hX1 : (X ++ [x]).length ≤ 1000 := by simp; omega
  rw [show X ++ [x, y] = (X ++ [x]) ++ [y] by simp] at HS2
  have HTK := hidden (takeG_calls (w := ((w.alloc (.cells #[.int .i64 4, .int .u64 a, .int .u64 b, .int .u64 c, .int .u64 d] 73)).alloc (.cells #[.func (.func 46) #[] #[], .func (.func 54) #[] #[], .func (.func 55) #[] #[], .func (.func 56) #[] #[], .func (.func 57) #[] #[], .func (.func 58) #[] #[], .func (.func 59) #[] #[]] 63))) (B := B) (base := base) (X := X ++ [x]) (x := y) HS2.out hX1)
  go_enter Tryz.func83, Tryz.ntmps83
  go_wp2_with fail
  refine HTK.out.mono ?_
  rintro e w2 ⟨rfl, hs2, hg2⟩
  have HS3 := hidden hs2
  have HG3 := hidden hg2
  clear hs2 hg2
  go_wp2_with fail
  refine (takeG_calls HS3.out (by omega)).mono ?_
  rintro e w3 ⟨rfl, hs3, hg3⟩
  have HS4 := hidden hs3
  have HG4 := hidden (gb_trans HG3.out hg3)
  have c0 := (HBX.out w3 HG4.out).1
  have d3 := (HBX.out w3 HG4.out).2 3 _ rfl
  clear hs3 hg3
  go_wp2_with fail
  refine (doG4_calls x y _ hx hy).mono ?_
  rintro e w4 ⟨rfl, hb4⟩
  have HS5 := hidden (StkG.below HS4.out hb4)
  have HG5 := hidden (gb_trans HG.out (gb_trans HG4.out (gb_below hb4)))
  clear hb4
  go_wp2
  go_ret
  exact ⟨rfl, HS5.out, HG5.out⟩
theorem applyG_next {s : Stp} {T T' : List Ex} (h : Next s T T') (hl : T.length ≤ 999) (hb : ∀ e ∈ T, OkG (loE e)) : ∃ (r : Ex) (Y : List Ex), T' = Y ++ [r] ∧ Y.length ≤ T.length ∧ ∀ (w : World) (B base : Nat), StkG w B base (T.map loE) →
    Calls Tryz.prog 83 #[s.val, .agg #[.func (.func 46) #[] #[], .func (.func 54) #[] #[], .func (.func 55) #[] #[], .func (.func 56) #[] #[], .func (.func 57) #[] #[], .func (.func 58) #[] #[], .func (.func 59) #[] #[]], .func (.func 82) #[] #[.pointer (some ⟨B, 0, none⟩)]] w fun e w' => e = .returned (.int .i64 ((loE r))) ∧ StkG w' B base (Y.map loE) ∧ w.grownBy w' (some B) := by
  cases h with
  | set r h e => exact ⟨.set (bitsE s), T, rfl, Nat.le_refl _, fun w B base hs => applyG_set (congrArg Stp.a e) (congrArg Stp.b e) (congrArg Stp.c e) (congrArg Stp.d e) h hs (by simp; omega)⟩
  | emp r e => exact ⟨.emp, T, rfl, Nat.le_refl _, fun w B base hs => applyG_emp (congrArg Stp.k e) hs (by simp; omega)⟩
  | cat r a b e =>
    refine ⟨.cat a b, r, rfl, by simp, fun w B base hs => ?_⟩
    rw [List.map_append] at hs
    exact applyG_cat (congrArg Stp.k e) hs (by simp at hl ⊢; omega) (hb a (by simp)) (hb b (by simp))
  | alt r a b e =>
    refine ⟨.alt a b, r, rfl, by simp, fun w B base hs => ?_⟩
    rw [List.map_append] at hs
    exact applyG_alt (congrArg Stp.k e) hs (by simp at hl ⊢; omega) (hb a (by simp)) (hb b (by simp))
  | un r a e h =>
    refine ⟨.un s.k a, r, rfl, by simp, fun w B base hs => ?_⟩
    rw [List.map_append] at hs
    have hr : (r.map loE).length ≤ 1000 := by simp at hl ⊢; omega
    rcases h with h | h | h
    · rw [h]; exact applyG_star h hs hr (hb a (by simp))
    · rw [h]; exact applyG_plus h hs hr (hb a (by simp))
    · rw [h]; exact applyG_opt h hs hr (hb a (by simp))
theorem infoG : (Tryz.prog.info? 3).map (fun i => (i.zero, i.size, i.bytes)) = some (some (.int .i64 0), 1, 8) := by kernel_rfl
set_option maxHeartbeats 8000000 in
set_option maxRecDepth 100000 in
theorem evalG_none {C : Nat → Prop} {v0 : Value} {L : List Stp} {w : World} (h : SlX C w v0 L) (hC : ∀ b, C b → b < w.heap.size) (hz : (measV L).2 ≠ 0) :
    Calls Tryz.prog 45 #[v0, .agg #[.func (.func 46) #[] #[], .func (.func 54) #[] #[], .func (.func 55) #[] #[], .func (.func 56) #[] #[], .func (.func 57) #[] #[], .func (.func 58) #[] #[], .func (.func 59) #[] #[]]] w fun e w' => e = .returned (.tuple #[.int .i64 0, .bool false]) ∧ Below w.heap.size w w' := by
  have hba := (Below.refl w.heap.size w).alloc (Nat.le_refl _) (.cells #[.func (.func 46) #[] #[], .func (.func 54) #[] #[], .func (.func 55) #[] #[], .func (.func 56) #[] #[], .func (.func 57) #[] #[], .func (.func 58) #[] #[], .func (.func 59) #[] #[]] 63)
  have hsl := h.below (C' := fun b => b < (w.alloc (.cells #[.func (.func 46) #[] #[], .func (.func 54) #[] #[], .func (.func 55) #[] #[], .func (.func 56) #[] #[], .func (.func 57) #[] #[], .func (.func 58) #[] #[], .func (.func 59) #[] #[]] 63)).heap.size) (w' := w.alloc (.cells #[.func (.func 46) #[] #[], .func (.func 54) #[] #[], .func (.func 55) #[] #[], .func (.func 56) #[] #[], .func (.func 57) #[] #[], .func (.func 58) #[] #[], .func (.func 59) #[] #[]] 63)) fun b hb => ⟨Nat.lt_of_lt_of_le (hC b hb) hba.size, hba.block b (hC b hb)⟩
  have HCK := hidden (check_slX hsl fun b hb => hb)
  have q1 : ((measV L).2 != 0) = true := by simpa using hz
  have HB := hidden hba
  obtain ⟨av, cv, rfl, _⟩ := h
  generalize (measV L).2 = z at *
  clear hsl hz hba
  go_enter Tryz.func45, Tryz.ntmps45
  go_wp2_with fail
  refine HCK.out.mono ?_
  rintro e w1 ⟨rfl, hb⟩
  have HB1 := hidden (below_then HB.out HB.out.size hb)
  clear hb
  go_wp2
  go_ret2
  exact ⟨rfl, HB1.out⟩
set_option maxHeartbeats 8000000 in
set_option maxRecDepth 100000 in
theorem evalG_calls {C : Nat → Prop} {v0 : Value} {L : List Stp} {w : World} (h : SlX C w v0 L) (hC : ∀ b, C b → b < w.heap.size) (hz : (measV L).2 = 0) (hwd : ∀ s ∈ L, s.wide) :
    Calls Tryz.prog 45 #[v0, .agg #[.func (.func 46) #[] #[], .func (.func 54) #[] #[], .func (.func 55) #[] #[], .func (.func 56) #[] #[], .func (.func 57) #[] #[], .func (.func 58) #[] #[], .func (.func 59) #[] #[]]] w fun e w' => e = .returned (.tuple #[.int .i64 ((loE (treeE L))), .bool true]) ∧ Below w.heap.size w w' := by
  obtain ⟨i0, hi, hz0, hz1, hz2⟩ := info_parts infoG
  obtain ⟨W, hW⟩ : ∃ W, W = w.alloc (.cells #[.func (.func 46) #[] #[], .func (.func 54) #[] #[], .func (.func 55) #[] #[], .func (.func 56) #[] #[], .func (.func 57) #[] #[], .func (.func 58) #[] #[], .func (.func 59) #[] #[]] 63) := ⟨_, rfl⟩
  have hba : Below w.heap.size w W := by rw [hW]; exact (Below.refl w.heap.size w).alloc (Nat.le_refl _) _
  have hWs : W.heap.size = w.heap.size + 1 := by rw [hW]; simp
  have hdo : W.heap[w.heap.size]? = some (.cells #[.func (.func 46) #[] #[], .func (.func 54) #[] #[], .func (.func 55) #[] #[], .func (.func 56) #[] #[], .func (.func 57) #[] #[], .func (.func 58) #[] #[], .func (.func 59) #[] #[]] 63) := by rw [hW]; exact heap_alloc_new w _
  have hsl := h.below (C' := fun b => b < w.heap.size) (w' := W) fun b hb => ⟨hC b hb, hba.block b (hC b hb)⟩
  have hCK := check_slX hsl fun b hb => by omega
  rw [hz, hW] at hCK
  have HCK := hidden hCK
  obtain ⟨m, hm, hm512⟩ := high_range hz
  have HHI := hidden (fun W2 (hb : Below W.heap.size W W2) => (show Calls Tryz.prog 79 #[v0] W2 fun e w' => e = .returned (.int .i64 (m : Int)) ∧ Below W2.heap.size W2 w' by
    have := high_slX (hsl.below (C' := fun b => b < W2.heap.size) (w' := W2) fun b hb' => ⟨by have := hb.size; omega, hb.block b (by omega)⟩) (fun b hb => hb)
    rw [hm] at this
    exact this))
  obtain ⟨h512, hE⟩ := meas_expr hz
  have hpos := expr_ne hE
  obtain ⟨hone, hok, _⟩ := tree_of hE hwd
  obtain ⟨a, cap, rfl, hl, hcap, _, hS⟩ := h
  obtain ⟨b, off, rfl, hCb, hc⟩ := hS.2 hpos
  have hbl := hC b hCb
  have HNX := hidden (fun k (hk : k < L.length) => next_of hk hE.1 hwd (forms_at hE.1 hwd k (by omega)))
  have HFO := hidden (fun k (hk : k ≤ L.length) => forms_at hE.1 hwd k hk)
  have HCE := hidden (fun W2 (hW2 : Below (w.heap.size + 1) W W2) k (hk : k < L.length) => (hc k hk).kept (w' := W2) ((hW2.block b (by omega)).trans (hba.block b hbl)))
  have HDO := hidden (fun W2 (hW2 : Below (w.heap.size + 1) W W2) => (show ∀ j v, (#[.func (.func 46) #[] #[], .func (.func 54) #[] #[], .func (.func 55) #[] #[], .func (.func 56) #[] #[], .func (.func 57) #[] #[], .func (.func 58) #[] #[], .func (.func 59) #[] #[]] : Array Value)[j]? = some v → W2.cell? ⟨w.heap.size, j, none⟩ = some v from fun j v hj =>
    (cell_of_row W2 _ j _ _ _ ((hW2.block _ (Nat.lt_succ_self _)).trans hdo)).trans hj))
  have HONE := hidden hone
  have HBA := hidden hba
  have HOK := hidden (fun k (hk : k ≤ L.length) e (he : e ∈ trees L k) => (show OkG (loE e) from by
    obtain ⟨g1, g2⟩ := HFO.out k hk
    have h2 : (ops e).length ≤ ((trees L k).flatMap ops).length := by
      obtain ⟨a, b, hab⟩ := List.append_of_mem he
      rw [hab]
      simp only [List.flatMap_append, List.flatMap_cons, List.length_append]
      omega
    rw [g1, List.length_take] at h2
    exact okG e (by omega)))
  have HTL := hidden (fun k (hk : k ≤ L.length) => (show (trees L k).length ≤ 512 from by
    obtain ⟨g1, g2⟩ := HFO.out k hk
    have h3 : ∀ es : List Ex, es.length ≤ (es.flatMap ops).length := fun es => by
      induction es with
      | nil => simp
      | cons e r ih =>
        have := ops_pos e
        simp only [List.flatMap_cons, List.length_append, List.length_cons]
        omega
    have h2 := h3 (trees L k)
    rw [g1, List.length_take] at h2
    omega))
  obtain ⟨n, hn⟩ : ∃ n, n = L.length := ⟨_, rfl⟩
  rw [← hn] at HNX HFO HCE HONE HTL HOK h512 hpos hl hCK HCK HHI ⊢
  obtain ⟨T, hT⟩ : ∃ T, T = trees L := ⟨_, rfl⟩
  rw [← hT] at HNX HFO HONE HTL HOK
  have HT0 := hidden (show T 0 = [] by rw [hT]; rfl)
  have HWD := hidden hW
  clear hE hS hc hC hCb hone hok hwd hn hT hcap hCK hsl hz hdo hba HFO hm
  go_enter Tryz.func45, Tryz.ntmps45
  clear hW
  go_wp2_with fail
  refine HCK.out.mono ?_
  rintro e w2 ⟨rfl, hb2⟩
  rw [← HWD.out] at hb2
  have HB2 := hidden hb2
  clear hb2
  go_wp2_with fail
  refine (HHI.out w2 HB2.out).mono ?_
  rintro e w3 ⟨rfl, hb3⟩
  have HB3 := hidden (below_after HB2.out hb3)
  clear hb3
  have hs3 : w.heap.size + 1 ≤ w3.heap.size := by rw [← hWs]; exact HB3.out.size
  go_wp2_with (at_make; refine wpList_make_own _ rfl _ _ 27 rfl (w.heap.size + 1) 3 i0 (.int .i64 0) 1 Tryz.underlying27 hi hz0 hz1 _ _ _ m rfl rfl rfl ?b2 ?b3 hs3 ?_)
  case b2 => rw [hz2]; omega
  case b3 => unfold maxLen; omega
  intro w4 hown4 hgrow4
  have HSK := hidden (show StkG (w4.alloc (.cells #[.slice (some ⟨w3.heap.size, 0, none⟩) 0 m] 27)) w4.heap.size (w.heap.size + 1) ((T 0).map loE) by
    rw [HT0.out]
    exact ⟨_, _, Boxed.new w4 _ _, World.ownsRow.alloc hown4 _⟩)
  have hb4 : Below (w.heap.size + 1) W w4 := (show Below (w.heap.size + 1) W w3 by rw [← hWs]; exact HB3.out).grown hgrow4 hs3 (fun j e => by cases e)
  have HB4 := hidden (hb4.alloc (by have := hgrow4.size; omega) (.cells #[.slice (some ⟨w3.heap.size, 0, none⟩) 0 m] 27))
  have hs4 : w.heap.size + 1 ≤ w4.heap.size := by have := hgrow4.size; omega
  clear hown4 hgrow4 hb4
  go_wp2
  go_loopw [22] (fun i wr => ∃ k : Nat, k ≤ n ∧ i = .int .i64 k ∧ StkG wr w4.heap.size (w.heap.size + 1) ((T k).map loE) ∧ Below (w.heap.size + 1) W wr) (fun i _ => n - (intOf i).toNat)
  case atStart => exact ⟨0, by omega, rfl, HSK.out, HB4.out⟩
  case round =>
    obtain ⟨k, hk, rfl, hst, hb⟩ := hrel
    have HST := hidden hst
    have HB := hidden hb
    clear hst hb
    by_cases hlt : k < n
    · obtain ⟨hnx, _⟩ := HNX.out k hlt
      have hTk := HTL.out k hk
      obtain ⟨r, Y, hTY, hYl, hap⟩ := applyG_next hnx (by omega) (HOK.out k hk)
      have HTY := hidden hTY
      obtain ⟨c0, c1, c2, c3, c4⟩ := HCE.out wr HB.out k hlt
      have hd := HDO.out wr HB.out
      have d0 := hd 0 _ rfl
      have d1 := hd 1 _ rfl
      have d2 := hd 2 _ rfl
      have d3 := hd 3 _ rfl
      have d4 := hd 4 _ rfl
      have d5 := hd 5 _ rfl
      have d6 := hd 6 _ rfl
      generalize L.getD k default = s at *
      obtain ⟨kd, sa, sb, sc, sd⟩ := s
      have hbx := (Below.refl wr.heap.size wr).alloc (Nat.le_refl _) (.cells #[.int .i64 kd, .int .u64 sa, .int .u64 sb, .int .u64 sc, .int .u64 sd] 73)
      have HAP := hidden (hap _ _ _ (StkG.below HST.out hbx))
      have hsz1 := HB.out.size
      have hlw : w.heap.size < wr.heap.size := by omega
      have HBX := hidden (below_then HB.out (by omega) hbx)
      have hYY : (Y.map loE).length ≤ 600 := by simp; omega
      have HYT := hidden (show Y.map loE ++ [loE r] = (T (k + 1)).map loE by rw [hTY]; simp)
      generalize loE r = x at *
      generalize Y.map loE = X at *
      unfold Stp.val at HAP
      clear hd hap hTY hnx hbx hTk hYl
      go_wp2_with fail
      refine HAP.out.mono ?_
      rintro e w5 ⟨rfl, hs5, hg5⟩
      have hb5 : Below (w.heap.size + 1) W w5 := HBX.out.grown hg5 (by simp; omega) (fun j e => by simp only [Option.some.injEq] at e; omega)
      have HB5 := hidden hb5
      obtain ⟨g5, c5, q1, q2⟩ := hs5
      have hcb := q1.cell
      have hfb := q1.frozen
      have Q1 := hidden (q1.alloc (.cells #[.int .i64 (x)] 3))
      have Q2 := hidden (World.ownsRow.alloc q2 (.cells #[.int .i64 (x)] 3))
      have hsz5 := HB5.out.size
      have hg5b := (q2.lt g5 rfl).1
      have hg5l := (q2.lt g5 rfl).2
      have HBA5 := hidden (HB5.out.alloc (by omega) (.cells #[.int .i64 (x)] 3))
      obtain ⟨nx, hnx⟩ : ∃ nx, nx = X.length := ⟨_, rfl⟩
      have HNXX := hidden hnx
      rw [← hnx] at hcb Q1 Q2 hYY
      clear hb5 q1 q2 hg5 hnx
      go_wp2_with (at_builtin; refine app_elem rfl _ _ rfl Tryz.underlying27 infoG rfl (by decide) (by decide) (base := w.heap.size + 1) (n := nx) (xs := X.map fun x => .int .i64 (x)) (ys := [.int .i64 (x)]) rfl Q2.out rfl (heap_alloc_new w5 _) rfl (fun u hu => by simp at hu; subst hu; rfl) (by omega) (by simp; omega) ?_; intro g6 c6 w6 hown6 hgrow6; have HP := hidden (StkV.push Q1.out Q2.out (by decide) hgrow6 hown6); have hcb6 := (Q1.out.kept hgrow6 (Q1.out.not_row (by decide) Q2.out)).cell; have hfb6 := (Q1.out.kept hgrow6 (Q1.out.not_row (by decide) Q2.out)).frozen; have HB6 := hidden ((HBA5.out.grown hgrow6 (by simp; omega) (fun j e => by simp only [Option.some.injEq] at e; omega)).setCell (p := ⟨w4.heap.size, 0, none⟩) (by simp only; omega) (.slice (some ⟨g6, 0, none⟩) (nx + 1) c6)); clear hown6 hgrow6)
      go_wp2
      have hlt' := hlt
      go_roundw
      case rel =>
        refine ⟨k + 1, by omega, by go_num, ?_, HB6.out⟩
        rw [← HYT.out]
        unfold StkG
        rw [List.length_append, List.map_append, ← HNXX.out]
        exact HP.out
      case measure => simp [intOf]; omega
    · obtain rfl : k = n := by omega
      have hst := HST.out
      rw [HONE.out] at hst
      have HTK := hidden (takeG_calls (X := []) hst (by simp))
      clear hst
      go_wp2_with fail
      refine HTK.out.mono ?_
      rintro e w5 ⟨rfl, hs5, hg5⟩
      have hsz := HB.out.size
      have HB5 := hidden ((HBA.out.mono (Nat.le_refl _)).trans ((HB.out.mono (Nat.le_succ _)).grown hg5 (by omega) (fun j e => by simp only [Option.some.injEq] at e; omega)))
      clear hs5 hg5
      go_wp2
      go_ret2
      exact ⟨rfl, HB5.out⟩
end Go.Proofs.YthkboclooplpeaaGreatDoor

/- Contracts of Nullable, Shortest and Longest. -/
namespace Go.Proofs.YthkboclooplpeaaGreatDoor
open Go.RowKit Go.Lib Go.Joins

set_option maxHeartbeats 4000000 in
set_option maxRecDepth 100000 in
theorem Nullable_calls {C : Nat → Prop} {v0 : Value} {L : List Stp} {w : World} (h : SlX C w v0 L) (hC : ∀ b, C b → b < w.heap.size) (hwd : ∀ s ∈ L, s.wide) :
    Calls Tryz.prog 14 #[v0] w fun e w' => e = .returned (.bool (if (measV L).2 = 0 then nul (treeE L) else false)) ∧ Below w.heap.size w w' := by
  by_cases hz : (measV L).2 = 0
  · have H := hidden (evalN_calls h hC hz hwd)
    have hr : (if (measV L).2 = 0 then nul (treeE L) else false) = nul (treeE L) := by rw [if_pos hz]
    rw [hr]
    generalize nul (treeE L) = r at *
    obtain ⟨av, cv, rfl, _⟩ := h
    clear hr hz hwd
    go_enter Tryz.func14, Tryz.ntmps14
    go_wp2_with fail
    refine H.out.mono ?_
    rintro e w1 ⟨rfl, hb⟩
    have HB := hidden hb
    clear hb
    go_wp2
    go_ret
    exact ⟨rfl, HB.out⟩
  · have H := hidden (evalN_none h hC hz)
    have hr : (if (measV L).2 = 0 then nul (treeE L) else false) = false := by rw [if_neg hz]
    rw [hr]
    obtain ⟨av, cv, rfl, _⟩ := h
    clear hr hz hwd
    go_enter Tryz.func14, Tryz.ntmps14
    go_wp2_with fail
    refine H.out.mono ?_
    rintro e w1 ⟨rfl, hb⟩
    have HB := hidden hb
    clear hb
    go_wp2
    go_ret
    exact ⟨rfl, HB.out⟩
set_option maxHeartbeats 4000000 in
set_option maxRecDepth 100000 in
theorem Shortest_calls {C : Nat → Prop} {v0 : Value} {L : List Stp} {w : World} (h : SlX C w v0 L) (hC : ∀ b, C b → b < w.heap.size) (hwd : ∀ s ∈ L, s.wide) :
    Calls Tryz.prog 15 #[v0] w fun e w' => e = .returned (.int .i64 (if (measV L).2 = 0 then shE (treeE L) else -1)) ∧ Below w.heap.size w w' := by
  by_cases hz : (measV L).2 = 0
  · have H := hidden (evalS_calls h hC hz hwd)
    have hr : (if (measV L).2 = 0 then shE (treeE L) else -1) = shE (treeE L) := by rw [if_pos hz]
    rw [hr]
    generalize shE (treeE L) = r at *
    obtain ⟨av, cv, rfl, _⟩ := h
    clear hr hz hwd
    go_enter Tryz.func15, Tryz.ntmps15
    go_wp2_with fail
    refine H.out.mono ?_
    rintro e w1 ⟨rfl, hb⟩
    have HB := hidden hb
    clear hb
    go_wp2
    go_ret
    exact ⟨rfl, HB.out⟩
  · have H := hidden (evalS_none h hC hz)
    have hr : (if (measV L).2 = 0 then shE (treeE L) else -1) = -1 := by rw [if_neg hz]
    rw [hr]
    obtain ⟨av, cv, rfl, _⟩ := h
    clear hr hz hwd
    go_enter Tryz.func15, Tryz.ntmps15
    go_wp2_with fail
    refine H.out.mono ?_
    rintro e w1 ⟨rfl, hb⟩
    have HB := hidden hb
    clear hb
    go_wp2
    go_ret
    exact ⟨rfl, HB.out⟩
set_option maxHeartbeats 4000000 in
set_option maxRecDepth 100000 in
theorem Longest_calls {C : Nat → Prop} {v0 : Value} {L : List Stp} {w : World} (h : SlX C w v0 L) (hC : ∀ b, C b → b < w.heap.size) (hwd : ∀ s ∈ L, s.wide) :
    Calls Tryz.prog 17 #[v0] w fun e w' => e = .returned (.int .i64 (if (measV L).2 = 0 then loE (treeE L) else -1)) ∧ Below w.heap.size w w' := by
  by_cases hz : (measV L).2 = 0
  · have H := hidden (evalG_calls h hC hz hwd)
    have hr : (if (measV L).2 = 0 then loE (treeE L) else -1) = loE (treeE L) := by rw [if_pos hz]
    rw [hr]
    generalize loE (treeE L) = r at *
    obtain ⟨av, cv, rfl, _⟩ := h
    clear hr hz hwd
    go_enter Tryz.func17, Tryz.ntmps17
    go_wp2_with fail
    refine H.out.mono ?_
    rintro e w1 ⟨rfl, hb⟩
    have HB := hidden hb
    clear hb
    go_wp2
    go_ret
    exact ⟨rfl, HB.out⟩
  · have H := hidden (evalG_none h hC hz)
    have hr : (if (measV L).2 = 0 then loE (treeE L) else -1) = -1 := by rw [if_neg hz]
    rw [hr]
    obtain ⟨av, cv, rfl, _⟩ := h
    clear hr hz hwd
    go_enter Tryz.func17, Tryz.ntmps17
    go_wp2_with fail
    refine H.out.mono ?_
    rintro e w1 ⟨rfl, hb⟩
    have HB := hidden hb
    clear hb
    go_wp2
    go_ret
    exact ⟨rfl, HB.out⟩
end Go.Proofs.YthkboclooplpeaaGreatDoor
