/- FaLong, FaFirst, put together. -/
import Derived.Test.YthkboclooplpeaaGreatDoorRf41
import Derived.Test.YthkboclooplpeaaGreatDoorRf15
/- Contract of the reference's longest, at the steps of a tree; of Shortest and Longest. -/
namespace Go.Proofs.YthkboclooplpeaaGreatDoor
open Go.RowKit Go.Lib Go.Joins

section
variable {b off cap : Nat} {L : List Stp}
set_option maxRecDepth 100000 in
theorem rloSet {i : Nat} {x : Int} (hi : i < L.length) (hk : (L.getD i default).k = 1) (HA : Tells b off cap L 53 i x) : Tells b off cap L 60 i x := by
  intro w h
  have c0 := h.kind hi hk
  have HAA := hidden (HA w h)
  generalize L.length = n at *
  clear h hk HA
  go_enter Tryz.func60, Tryz.ntmps60
  go_wp2_with fail
  refine HAA.out.mono ?_
  rintro e w1 ⟨rfl, rfl⟩
  go_wp2
  go_ret
  exact ⟨rfl, rfl⟩
set_option maxRecDepth 100000 in
theorem rloEmp {i : Nat} (hi : i < L.length) (hk : (L.getD i default).k = 2) : Tells b off cap L 60 i 0 := by
  intro w h
  have c0 := h.kind hi hk
  generalize L.length = n at *
  clear h hk
  go_enter Tryz.func60, Tryz.ntmps60
  go_wp2
  go_ret
  exact ⟨rfl, rfl⟩
set_option maxHeartbeats 2000000 in
set_option maxRecDepth 100000 in
theorem rloUn {i j : Nat} {k x r : Int} (hi : i < L.length) (hk : (L.getD i default).k = k) (hj : j + 1 = i) (hl : L.length ≤ 1000)
    (hr : (k = 7 ∧ x = -1 ∧ r = 0) ∨ (k = 7 ∧ x ≠ -1 ∧ r = x) ∨ (k = 5 ∧ 0 < x ∧ r = -2) ∨ (k = 5 ∧ x = -1 ∧ r = 0) ∨ (k = 5 ∧ x ≤ 0 ∧ x ≠ -1 ∧ r = x) ∨ (k = 6 ∧ 0 < x ∧ r = -2) ∨ (k = 6 ∧ x ≤ 0 ∧ r = x))
    (HA : Tells b off cap L 60 j x) : Tells b off cap L 60 i r := by
  intro w h
  have c0 := h.kind hi hk
  have HAA := hidden (HA w h)
  have hsub : IntKind.i64.wrap ((i : Int) - 1) = j := by rw [IntKind.wrap_i64]; omega
  generalize L.length = n at *
  clear h hk hj HA
  rcases hr with ⟨rfl, h1, hr⟩ | ⟨rfl, h1, hr⟩ | ⟨rfl, h1, hr⟩ | ⟨rfl, h1, hr⟩ | ⟨rfl, h1, h2, hr⟩ | ⟨rfl, h1, hr⟩ | ⟨rfl, h1, hr⟩
  · have d1 : (x == -1) = true := by simp [h1]
    have HR := hidden hr
    clear hr h1
    go_enter Tryz.func60, Tryz.ntmps60
    go_wp2_with fail
    refine HAA.out.mono ?_
    rintro e w1 ⟨rfl, rfl⟩
    go_wp2
    go_ret
    exact ⟨ret_i HR.out.symm, rfl⟩
  · have d1 : (x == -1) = false := by simp [h1]
    have HR := hidden hr
    clear hr h1
    go_enter Tryz.func60, Tryz.ntmps60
    go_wp2_with fail
    refine HAA.out.mono ?_
    rintro e w1 ⟨rfl, rfl⟩
    go_wp2
    go_ret
    exact ⟨ret_i HR.out.symm, rfl⟩
  · have d1 : decide (0 < x) = true := decide_eq_true h1
    have HR := hidden hr
    clear hr h1
    go_enter Tryz.func60, Tryz.ntmps60
    go_wp2_with fail
    refine HAA.out.mono ?_
    rintro e w1 ⟨rfl, rfl⟩
    go_wp2
    go_ret
    exact ⟨ret_i HR.out.symm, rfl⟩
  · have d1 : (x == -1) = true := by simp [h1]
    have d2 : decide (0 < x) = false := decide_eq_false (by omega)
    have HR := hidden hr
    clear hr h1
    go_enter Tryz.func60, Tryz.ntmps60
    go_wp2_with fail
    refine HAA.out.mono ?_
    rintro e w1 ⟨rfl, rfl⟩
    go_wp2
    go_ret
    exact ⟨ret_i HR.out.symm, rfl⟩
  · have d1 : (x == -1) = false := by simp [h2]
    have d2 : decide (0 < x) = false := decide_eq_false (by omega)
    clear h2
    have HR := hidden hr
    clear hr h1
    go_enter Tryz.func60, Tryz.ntmps60
    go_wp2_with fail
    refine HAA.out.mono ?_
    rintro e w1 ⟨rfl, rfl⟩
    go_wp2
    go_ret
    exact ⟨ret_i HR.out.symm, rfl⟩
  · have d1 : decide (0 < x) = true := decide_eq_true h1
    have HR := hidden hr
    clear hr h1
    go_enter Tryz.func60, Tryz.ntmps60
    go_wp2_with fail
    refine HAA.out.mono ?_
    rintro e w1 ⟨rfl, rfl⟩
    go_wp2
    go_ret
    exact ⟨ret_i HR.out.symm, rfl⟩
  · have d2 : decide (0 < x) = false := decide_eq_false (by omega)
    have HR := hidden hr
    clear hr h1
    go_enter Tryz.func60, Tryz.ntmps60
    go_wp2_with fail
    refine HAA.out.mono ?_
    rintro e w1 ⟨rfl, rfl⟩
    go_wp2
    go_ret
    exact ⟨ret_i HR.out.symm, rfl⟩
set_option maxHeartbeats 4000000 in
set_option maxRecDepth 100000 in
theorem rloTwo {i j y l : Nat} {k x z r : Int} (hi : i < L.length) (hk : (L.getD i default).k = k) (hj : j + 1 = i) (hy : l + 1 = y) (hl : L.length ≤ 1000) (hyl : y ≤ 1000) (hx : -2 ≤ x ∧ x ≤ 1000) (hz : -2 ≤ z ∧ z ≤ 1000)
    (hr : (k = 3 ∧ x = -1 ∧ r = -1) ∨ (k = 3 ∧ x ≠ -1 ∧ z = -1 ∧ r = -1) ∨ (k = 3 ∧ x = -2 ∧ z ≠ -1 ∧ r = -2) ∨ (k = 3 ∧ x ≠ -1 ∧ x ≠ -2 ∧ z = -2 ∧ r = -2) ∨ (k = 3 ∧ x ≠ -1 ∧ x ≠ -2 ∧ z ≠ -1 ∧ z ≠ -2 ∧ r = x + z) ∨
      (k = 4 ∧ x = -2 ∧ r = -2) ∨ (k = 4 ∧ x ≠ -2 ∧ z = -2 ∧ r = -2) ∨ (k = 4 ∧ x ≠ -2 ∧ z ≠ -2 ∧ r = max x z))
    (HA : Tells b off cap L 60 l x) (HC : Tells b off cap L 60 j z) (HB : Begins b off cap L j y) :
    Tells b off cap L 60 i r := by
  intro w h
  have c0 := h.kind hi hk
  have HAA := hidden (HA w h)
  have HCC := hidden (HC w h)
  have HBB := hidden (HB w h)
  have hsub : IntKind.i64.wrap ((i : Int) - 1) = j := by rw [IntKind.wrap_i64]; omega
  have hsub2 : IntKind.i64.wrap ((y : Int) - 1) = l := by rw [IntKind.wrap_i64]; omega
  have hadd : IntKind.i64.wrap (x + z) = x + z := by rw [IntKind.wrap_i64]; omega
  generalize L.length = n at *
  clear h hk hj HA HC HB hy hx hz
  rcases hr with ⟨rfl, h1, hr⟩ | ⟨rfl, h1, h2, hr⟩ | ⟨rfl, h1, h2, hr⟩ | ⟨rfl, h1, h2, h3, hr⟩ | ⟨rfl, h1, h2, h3, h4, hr⟩ | ⟨rfl, h1, hr⟩ | ⟨rfl, h1, h2, hr⟩ | ⟨rfl, h1, h2, hr⟩
  · have ex1 : (x == -1) = true := by simp; omega
    have HR := hidden hr
    clear hr h1
    go_enter Tryz.func60, Tryz.ntmps60
    go_wp2_with fail
    refine HCC.out.mono ?_
    rintro e w1 ⟨rfl, rfl⟩
    go_wp2_with fail
    refine HBB.out.mono ?_
    rintro e w1 ⟨rfl, rfl⟩
    go_wp2_with fail
    refine HAA.out.mono ?_
    rintro e w1 ⟨rfl, rfl⟩
    go_wp2
    go_ret
    exact ⟨ret_i HR.out.symm, rfl⟩
  · have ex1 : (x == -1) = false := by simp; omega
    have ez1 : (z == -1) = true := by simp; omega
    have HR := hidden hr
    clear hr h1 h2
    go_enter Tryz.func60, Tryz.ntmps60
    go_wp2_with fail
    refine HCC.out.mono ?_
    rintro e w1 ⟨rfl, rfl⟩
    go_wp2_with fail
    refine HBB.out.mono ?_
    rintro e w1 ⟨rfl, rfl⟩
    go_wp2_with fail
    refine HAA.out.mono ?_
    rintro e w1 ⟨rfl, rfl⟩
    go_wp2
    go_ret
    exact ⟨ret_i HR.out.symm, rfl⟩
  · have ex1 : (x == -1) = false := by simp; omega
    have ez1 : (z == -1) = false := by simp; omega
    have ex2 : (x == -2) = true := by simp; omega
    have HR := hidden hr
    clear hr h1 h2
    go_enter Tryz.func60, Tryz.ntmps60
    go_wp2_with fail
    refine HCC.out.mono ?_
    rintro e w1 ⟨rfl, rfl⟩
    go_wp2_with fail
    refine HBB.out.mono ?_
    rintro e w1 ⟨rfl, rfl⟩
    go_wp2_with fail
    refine HAA.out.mono ?_
    rintro e w1 ⟨rfl, rfl⟩
    go_wp2
    go_ret
    exact ⟨ret_i HR.out.symm, rfl⟩
  · have ex1 : (x == -1) = false := by simp; omega
    have ez1 : (z == -1) = false := by simp; omega
    have ex2 : (x == -2) = false := by simp; omega
    have ez2 : (z == -2) = true := by simp; omega
    have HR := hidden hr
    clear hr h1 h2 h3
    go_enter Tryz.func60, Tryz.ntmps60
    go_wp2_with fail
    refine HCC.out.mono ?_
    rintro e w1 ⟨rfl, rfl⟩
    go_wp2_with fail
    refine HBB.out.mono ?_
    rintro e w1 ⟨rfl, rfl⟩
    go_wp2_with fail
    refine HAA.out.mono ?_
    rintro e w1 ⟨rfl, rfl⟩
    go_wp2
    go_ret
    exact ⟨ret_i HR.out.symm, rfl⟩
  · have ex1 : (x == -1) = false := by simp; omega
    have ez1 : (z == -1) = false := by simp; omega
    have ex2 : (x == -2) = false := by simp; omega
    have ez2 : (z == -2) = false := by simp; omega
    have HR := hidden hr
    clear hr h1 h2 h3 h4
    go_enter Tryz.func60, Tryz.ntmps60
    go_wp2_with fail
    refine HCC.out.mono ?_
    rintro e w1 ⟨rfl, rfl⟩
    go_wp2_with fail
    refine HBB.out.mono ?_
    rintro e w1 ⟨rfl, rfl⟩
    go_wp2_with fail
    refine HAA.out.mono ?_
    rintro e w1 ⟨rfl, rfl⟩
    go_wp2
    go_ret
    exact ⟨ret_i HR.out.symm, rfl⟩
  · have ex2 : (x == -2) = true := by simp; omega
    have HR := hidden hr
    clear hr h1
    go_enter Tryz.func60, Tryz.ntmps60
    go_wp2_with fail
    refine HCC.out.mono ?_
    rintro e w1 ⟨rfl, rfl⟩
    go_wp2_with fail
    refine HBB.out.mono ?_
    rintro e w1 ⟨rfl, rfl⟩
    go_wp2_with fail
    refine HAA.out.mono ?_
    rintro e w1 ⟨rfl, rfl⟩
    go_wp2
    go_ret
    exact ⟨ret_i HR.out.symm, rfl⟩
  · have ex2 : (x == -2) = false := by simp; omega
    have ez2 : (z == -2) = true := by simp; omega
    have HR := hidden hr
    clear hr h1 h2
    go_enter Tryz.func60, Tryz.ntmps60
    go_wp2_with fail
    refine HCC.out.mono ?_
    rintro e w1 ⟨rfl, rfl⟩
    go_wp2_with fail
    refine HBB.out.mono ?_
    rintro e w1 ⟨rfl, rfl⟩
    go_wp2_with fail
    refine HAA.out.mono ?_
    rintro e w1 ⟨rfl, rfl⟩
    go_wp2
    go_ret
    exact ⟨ret_i HR.out.symm, rfl⟩
  · have ex2 : (x == -2) = false := by simp; omega
    have ez2 : (z == -2) = false := by simp; omega
    have HR := hidden hr
    clear hr h1 h2
    go_enter Tryz.func60, Tryz.ntmps60
    go_wp2_with fail
    refine HCC.out.mono ?_
    rintro e w1 ⟨rfl, rfl⟩
    go_wp2_with fail
    refine HBB.out.mono ?_
    rintro e w1 ⟨rfl, rfl⟩
    go_wp2_with fail
    refine HAA.out.mono ?_
    rintro e w1 ⟨rfl, rfl⟩
    go_wp2
    all_goals
      go_ret
      exact ⟨ret_i (by have := HR.out; omega), rfl⟩
theorem long_le {e : Ex} {x z : List Stp} (hL : L = x ++ ops e ++ z) (hl : L.length ≤ 1000) : -2 ≤ loE e ∧ loE e ≤ 1000 := by
  have := lo_range e
  rw [hL] at hl
  simp only [List.length_append] at hl
  omega
set_option maxHeartbeats 4000000 in
theorem rlong (hl : L.length ≤ 1000) : ∀ (e : Ex), e.ok → ∀ (x z : List Stp) (i : Nat), L = x ++ ops e ++ z → i + 1 = x.length + (ops e).length → Tells b off cap L 60 i (loE e)
  | .set f, ho, x, z, i, hL, hi => rloSet (at_end hL hi).1 (at_end hL hi).2 (rshort hl (.set f) ho x z i hL hi)
  | .emp, _, x, z, i, hL, hi => rloEmp (at_end hL hi).1 (at_end hL hi).2
  | .un k a, ⟨hk, ha⟩, x, z, i, hL, hi => by
    obtain ⟨h1, h2⟩ := at_end hL hi
    have hp := ops_pos a
    have hlen : (ops (.un k a)).length = (ops a).length + 1 := by simp [ops]
    have q0 := lo_range a
    have q1 := rep_spec (loE a)
    have q2 := lgr_spec (rep (loE a)) 0
    have q3 := lgr_spec (loE a) 0
    refine rloUn (j := i - 1) h1 h2 (by omega) hl ?_ (rlong hl a ha x ([kStp k] ++ z) (i - 1) (by rw [hL]; simp [ops]) (by omega))
    have hkk : (Ex.un k a).kind = k := rfl
    rw [hkk]
    rcases hk with rfl | rfl | rfl
    · have e2 : loE (.un 5 a) = lgr (rep (loE a)) 0 := rfl
      by_cases c1 : 0 < loE a
      · exact .inr (.inr (.inl ⟨rfl, c1, by omega⟩))
      · by_cases c2 : loE a = -1
        · exact .inr (.inr (.inr (.inl ⟨rfl, c2, by omega⟩)))
        · exact .inr (.inr (.inr (.inr (.inl ⟨rfl, by omega, c2, by omega⟩))))
    · have e2 : loE (.un 6 a) = rep (loE a) := rfl
      by_cases c1 : 0 < loE a
      · exact .inr (.inr (.inr (.inr (.inr (.inl ⟨rfl, c1, by omega⟩)))))
      · exact .inr (.inr (.inr (.inr (.inr (.inr ⟨rfl, by omega, by omega⟩)))))
    · have e2 : loE (.un 7 a) = lgr (loE a) 0 := rfl
      by_cases c1 : loE a = -1
      · exact .inl ⟨rfl, c1, by omega⟩
      · exact .inr (.inl ⟨rfl, c1, by omega⟩)
  | .cat a c, ⟨ha, hc⟩, x, z, i, hL, hi => by
    obtain ⟨h1, h2⟩ := at_end hL hi
    obtain ⟨⟨p1, p2⟩, ⟨p3, p4⟩, p5, p6, p7⟩ := two_parts (k := 3) (a := a) (c := c) rfl hL hi
    refine rloTwo (b := b) (off := off) (cap := cap) h1 h2 p5 p6 hl (by omega) (long_le p3 hl) (long_le p1 hl) ?_ (rlong hl a ha _ _ _ p3 p4) (rlong hl c hc _ _ _ p1 p2) (begins hc hl p1 p2)
    have hkk : (Ex.cat a c).kind = 3 := rfl
    have r1 := lo_range a
    have r2 := lo_range c
    have e : loE (.cat a c) = if loE a = -1 ∨ loE c = -1 then -1 else if loE a = -2 ∨ loE c = -2 then -2 else loE a + loE c := rfl
    rw [hkk]
    generalize loE (.cat a c) = r at *
    generalize loE a = x at *
    generalize loE c = y at *
    clear h1 h2 hL hi p1 p2 p3 p4 p5 p6 p7
    by_cases c1 : x = -1
    · exact .inl ⟨rfl, c1, by rw [e, if_pos (.inl c1)]⟩
    · by_cases c2 : y = -1
      · exact .inr (.inl ⟨rfl, c1, c2, by rw [e, if_pos (.inr c2)]⟩)
      · have c12 : ¬ (x = -1 ∨ y = -1) := by omega
        by_cases c3 : x = -2
        · exact .inr (.inr (.inl ⟨rfl, c3, c2, by rw [e, if_neg c12, if_pos (.inl c3)]⟩))
        · by_cases c4 : y = -2
          · exact .inr (.inr (.inr (.inl ⟨rfl, c1, c3, c4, by rw [e, if_neg c12, if_pos (.inr c4)]⟩)))
          · have c34 : ¬ (x = -2 ∨ y = -2) := by omega
            exact .inr (.inr (.inr (.inr (.inl ⟨rfl, c1, c3, c2, c4, by rw [e, if_neg c12, if_neg c34]⟩))))
  | .alt a c, ⟨ha, hc⟩, x, z, i, hL, hi => by
    obtain ⟨h1, h2⟩ := at_end hL hi
    obtain ⟨⟨p1, p2⟩, ⟨p3, p4⟩, p5, p6, p7⟩ := two_parts (k := 4) (a := a) (c := c) rfl hL hi
    refine rloTwo (b := b) (off := off) (cap := cap) h1 h2 p5 p6 hl (by omega) (long_le p3 hl) (long_le p1 hl) ?_ (rlong hl a ha _ _ _ p3 p4) (rlong hl c hc _ _ _ p1 p2) (begins hc hl p1 p2)
    have hkk : (Ex.alt a c).kind = 4 := rfl
    have q := lgr_spec (loE a) (loE c)
    have e : loE (.alt a c) = lgr (loE a) (loE c) := rfl
    rw [hkk]
    by_cases c1 : loE a = -2
    · exact .inr (.inr (.inr (.inr (.inr (.inl ⟨rfl, c1, by omega⟩)))))
    · by_cases c2 : loE c = -2
      · exact .inr (.inr (.inr (.inr (.inr (.inr (.inl ⟨rfl, c1, c2, by omega⟩))))))
      · exact .inr (.inr (.inr (.inr (.inr (.inr (.inr ⟨rfl, c1, c2, by omega⟩))))))
end
set_option maxRecDepth 100000 in
theorem rShortest_calls {C : Nat → Prop} {v0 : Value} {L : List Stp} {w : World} (h : SlX C w v0 L) (hC : ∀ b, C b → b < w.heap.size) (hwd : ∀ s ∈ L, s.wide) :
    Calls Tryz.prog 16 #[v0] w fun e w' => e = .returned (.int .i64 (if (measV L).2 = 0 then shE (treeE L) else -1)) ∧ w = w' := by
  have HC := rcheck_slX h
  by_cases hz : (measV L).2 = 0
  · rw [if_pos hz]
    rw [hz] at HC
    obtain ⟨h512, hE⟩ := meas_expr hz
    have hpos := expr_ne hE
    obtain ⟨_, hok, hops⟩ := tree_of hE hwd
    obtain ⟨a, cap, rfl, hl, hcap, _, hS⟩ := h
    obtain ⟨b, off, rfl, hCb, hc⟩ := hS.2 hpos
    obtain ⟨m, hm⟩ : ∃ m, m = L.length - 1 := ⟨_, rfl⟩
    have HT := hidden (rshort (b := b) (off := off) (cap := cap) (L := L) (by omega) (treeE L) hok [] [] m (by rw [hops]; simp) (by rw [hops, hm]; simp; omega) w ⟨hC b hCb, hc⟩)
    generalize shE (treeE L) = r at *
    have HCC := hidden HC
    have hsub : IntKind.i64.wrap ((L.length : Int) - 1) = m := by rw [IntKind.wrap_i64]; omega
    generalize L.length = n at *
    clear HC hz hE hok hops hS hc hC hCb hm hwd
    go_enter Tryz.func16, Tryz.ntmps16
    go_wp2_with fail
    refine HCC.out.mono ?_
    rintro e w1 ⟨rfl, rfl⟩
    go_wp2_with fail
    refine HT.out.mono ?_
    rintro e w1 ⟨rfl, rfl⟩
    go_wp2
    go_ret
    exact ⟨rfl, rfl⟩
  · rw [if_neg hz]
    have HCC := hidden HC
    have q1 : ((measV L).2 != 0) = true := by simpa using hz
    generalize (measV L).2 = z at *
    clear HC h hz
    go_enter Tryz.func16, Tryz.ntmps16
    go_wp2_with fail
    refine HCC.out.mono ?_
    rintro e w1 ⟨rfl, rfl⟩
    go_wp2
    go_ret
    exact ⟨rfl, rfl⟩
set_option maxRecDepth 100000 in
theorem rLongest_calls {C : Nat → Prop} {v0 : Value} {L : List Stp} {w : World} (h : SlX C w v0 L) (hC : ∀ b, C b → b < w.heap.size) (hwd : ∀ s ∈ L, s.wide) :
    Calls Tryz.prog 18 #[v0] w fun e w' => e = .returned (.int .i64 (if (measV L).2 = 0 then loE (treeE L) else -1)) ∧ w = w' := by
  have HC := rcheck_slX h
  by_cases hz : (measV L).2 = 0
  · rw [if_pos hz]
    rw [hz] at HC
    obtain ⟨h512, hE⟩ := meas_expr hz
    have hpos := expr_ne hE
    obtain ⟨_, hok, hops⟩ := tree_of hE hwd
    obtain ⟨a, cap, rfl, hl, hcap, _, hS⟩ := h
    obtain ⟨b, off, rfl, hCb, hc⟩ := hS.2 hpos
    obtain ⟨m, hm⟩ : ∃ m, m = L.length - 1 := ⟨_, rfl⟩
    have HT := hidden (rlong (b := b) (off := off) (cap := cap) (L := L) (by omega) (treeE L) hok [] [] m (by rw [hops]; simp) (by rw [hops, hm]; simp; omega) w ⟨hC b hCb, hc⟩)
    generalize loE (treeE L) = r at *
    have HCC := hidden HC
    have hsub : IntKind.i64.wrap ((L.length : Int) - 1) = m := by rw [IntKind.wrap_i64]; omega
    generalize L.length = n at *
    clear HC hz hE hok hops hS hc hC hCb hm hwd
    go_enter Tryz.func18, Tryz.ntmps18
    go_wp2_with fail
    refine HCC.out.mono ?_
    rintro e w1 ⟨rfl, rfl⟩
    go_wp2_with fail
    refine HT.out.mono ?_
    rintro e w1 ⟨rfl, rfl⟩
    go_wp2
    go_ret
    exact ⟨rfl, rfl⟩
  · rw [if_neg hz]
    have HCC := hidden HC
    have q1 : ((measV L).2 != 0) = true := by simpa using hz
    generalize (measV L).2 = z at *
    clear HC h hz
    go_enter Tryz.func18, Tryz.ntmps18
    go_wp2_with fail
    refine HCC.out.mono ?_
    rintro e w1 ⟨rfl, rfl⟩
    go_wp2
    go_ret
    exact ⟨rfl, rfl⟩
end Go.Proofs.YthkboclooplpeaaGreatDoor

/- Contract of the reference's first, at the steps of a tree. -/
namespace Go.Proofs.YthkboclooplpeaaGreatDoor
open Go.RowKit Go.Lib Go.Joins

section
variable {b off cap : Nat} {L : List Stp}
def TellsS (b off cap : Nat) (L : List Stp) (F : FuncId) (i : Nat) (f : Nat → Bool) : Prop := ∀ w, Lay b off L w → Calls Tryz.prog F #[.slice (some ⟨b, off, none⟩) L.length cap, .int .i64 i] w fun e w' => e = .returned (.agg #[.int .u64 (word (f) 0), .int .u64 (word (f) 1), .int .u64 (word (f) 2), .int .u64 (word (f) 3)]) ∧ Below w.heap.size w w'
theorem word_none_i (i : Nat) : (word fNone i : Int) = 0 := by rw [word_none]; rfl
theorem emp_end {x z : List Stp} {i : Nat} (hL : L = x ++ ops .emp ++ z) (hi : i + 1 = x.length + (ops .emp).length) : L.getD i default = kStp 2 := by
  have hx : i = x.length + ([] : List Stp).length := by simp [ops] at hi; simp; omega
  rw [hx, hL]
  exact getD_end x [] z (kStp 2)
theorem two0 (f g : Nat → Bool) (n : Nat) : fTwo 0 f g n = (f n || g n) := by simp [fTwo]
set_option maxHeartbeats 4000000 in
set_option maxRecDepth 100000 in
theorem rfiLeaf (F : FuncId) (hF : F = 62 ∨ F = 63) {i : Nat} {f : Nat → Bool} {k : Int} (hi : i < L.length) (hk : (L.getD i default).k = k) (hk2 : k = 1 ∨ k = 2) (h0 : (L.getD i default).a = word f 0) (h1 : (L.getD i default).b = word f 1) (h2 : (L.getD i default).c = word f 2) (h3 : (L.getD i default).d = word f 3) : TellsS b off cap L F i f := by
  intro w h
  have hr := h.2 i hi
  obtain ⟨d0, d1, d2, d3, d4⟩ := hr
  rw [hk] at d0
  rw [h0] at d1
  rw [h1] at d2
  rw [h2] at d3
  rw [h3] at d4
  have hbl := h.1
  generalize L.length = n at *
  clear h hk h0 h1 h2 h3
  rcases hF with rfl | rfl
  · rcases hk2 with rfl | rfl
    all_goals
      go_enter Tryz.func62, Tryz.ntmps62
      go_wp2
      exact ret_setAt Tryz.results62 rfl rfl (SetAt.new w f) (fun n hn => rfl) ⟨rfl, (Below.refl _ _).alloc (Nat.le_refl _) _⟩
  · rcases hk2 with rfl | rfl
    all_goals
      go_enter Tryz.func63, Tryz.ntmps63
      go_wp2
      exact ret_setAt Tryz.results63 rfl rfl (SetAt.new w f) (fun n hn => rfl) ⟨rfl, (Below.refl _ _).alloc (Nat.le_refl _) _⟩
set_option maxHeartbeats 4000000 in
set_option maxRecDepth 100000 in
theorem rfiUn (F : FuncId) (hF : F = 62 ∨ F = 63) {i j : Nat} {f : Nat → Bool} {k : Int} (hi : i < L.length) (hk : (L.getD i default).k = k) (hk2 : k = 5 ∨ k = 6 ∨ k = 7) (hj : j + 1 = i) (hl : L.length ≤ 1000) (HA : TellsS b off cap L F j f) : TellsS b off cap L F i f := by
  intro w h
  have h' := h.below ((Below.refl w.heap.size w).alloc (Nat.le_refl _) (.cells #[.int .u64 0, .int .u64 0, .int .u64 0, .int .u64 0] 33))
  have c0 := h'.kind hi hk
  have HAA := hidden (HA _ h')
  have hsub : IntKind.i64.wrap ((i : Int) - 1) = j := by rw [IntKind.wrap_i64]; omega
  have hbl := h.1
  have HN := hidden (SetAt.newNone w w.heap.size rfl)
  generalize L.length = n at *
  clear h h' hk hj HA
  rcases hF with rfl | rfl
  · rcases hk2 with rfl | rfl | rfl
    all_goals
      go_enter Tryz.func62, Tryz.ntmps62
      go_wp2_with fail
      refine HAA.out.mono ?_
      rintro e w1 ⟨rfl, hb1⟩
      have HR1 := hidden (HN.out.below hb1)
      have HB1 := hidden (below_then ((Below.refl w.heap.size w).alloc (Nat.le_refl _) _) (by simp) hb1)
      obtain ⟨e0, e1, e2, e3, f0, f1, f2, f3⟩ := HR1.out.facts
      have hlt := HR1.out.lt
      clear hb1
      go_wp2
      exact ret_setAt Tryz.results62 rfl rfl (SetAt.alloc (SetAt.stored (f := fNone) (g := f) HR1.out) _) (fun n hn => rfl) ⟨rfl, (below_cells HB1.out _ (Nat.le_refl _) _ _ _ _).alloc (by have := HB1.out.size; simpa [World.setCell] using this) _⟩
  · rcases hk2 with rfl | rfl | rfl
    all_goals
      go_enter Tryz.func63, Tryz.ntmps63
      go_wp2_with fail
      refine HAA.out.mono ?_
      rintro e w1 ⟨rfl, hb1⟩
      have HR1 := hidden (HN.out.below hb1)
      have HB1 := hidden (below_then ((Below.refl w.heap.size w).alloc (Nat.le_refl _) _) (by simp) hb1)
      obtain ⟨e0, e1, e2, e3, f0, f1, f2, f3⟩ := HR1.out.facts
      have hlt := HR1.out.lt
      clear hb1
      go_wp2
      exact ret_setAt Tryz.results63 rfl rfl (SetAt.alloc (SetAt.stored (f := fNone) (g := f) HR1.out) _) (fun n hn => rfl) ⟨rfl, (below_cells HB1.out _ (Nat.le_refl _) _ _ _ _).alloc (by have := HB1.out.size; simpa [World.setCell] using this) _⟩
set_option maxHeartbeats 8000000 in
set_option maxRecDepth 100000 in
theorem rfiTwo {i j y l : Nat} {k x z : Int} {f g r : Nat → Bool} (hi : i < L.length) (hk : (L.getD i default).k = k) (hj : j + 1 = i) (hy : l + 1 = y) (hl : L.length ≤ 1000) (hyl : y ≤ 1000)
    (hr : (k = 4 ∧ r = f2 f g) ∨ (k = 3 ∧ z < 0 ∧ r = fNone) ∨ (k = 3 ∧ 0 ≤ z ∧ x = 0 ∧ r = f2 f g) ∨ (k = 3 ∧ 0 ≤ z ∧ x ≠ 0 ∧ r = f))
    (HA : TellsS b off cap L 62 l f) (HC : TellsS b off cap L 62 j g) (HB : Begins b off cap L j y) (HX : Tells b off cap L 53 l x) (HZ : Tells b off cap L 53 j z) :
    TellsS b off cap L 62 i r := by
  intro w h
  have h' := h.below ((Below.refl w.heap.size w).alloc (Nat.le_refl _) (.cells #[.int .u64 0, .int .u64 0, .int .u64 0, .int .u64 0] 33))
  have c0 := h'.kind hi hk
  have HL := hidden h'
  have HCC := hidden (HC _ h')
  have HAA := hidden HA
  have HBB := hidden HB
  have HXX := hidden HX
  have HZZ := hidden HZ
  unfold TellsS at HAA
  unfold Begins at HBB
  unfold Tells at HXX HZZ
  have hsub : IntKind.i64.wrap ((i : Int) - 1) = j := by rw [IntKind.wrap_i64]; omega
  have hsub2 : IntKind.i64.wrap ((y : Int) - 1) = l := by rw [IntKind.wrap_i64]; omega
  have hbl := h.1
  have HN := hidden (SetAt.newNone w w.heap.size rfl)
  have HTW := hidden (fun w => two_calls 0 f g w (.inl rfl))
  generalize L.length = n at *
  clear h h' hk hj HA HC HB HX HZ hy
  rcases hr with ⟨rfl, hr⟩ | ⟨rfl, h1, hr⟩ | ⟨rfl, h1, h2, hr⟩ | ⟨rfl, h1, h2, hr⟩
  · have HR := hidden hr
    clear hr
    go_enter Tryz.func62, Tryz.ntmps62
    go_wp2_with fail
    refine HCC.out.mono ?_
    rintro e w1 ⟨rfl, hb1⟩
    have HR1 := hidden (HN.out.below hb1)
    have HB1 := hidden (below_then ((Below.refl w.heap.size w).alloc (Nat.le_refl _) _) (by simp) hb1)
    have hba := (Below.refl w1.heap.size w1).alloc (Nat.le_refl _) (.cells #[.int .u64 (word (g) 0), .int .u64 (word (g) 1), .int .u64 (word (g) 2), .int .u64 (word (g) 3)] 33)
    have HLa := hidden ((HL.out.below hb1).below hba)
    have HRa := hidden (SetAt.alloc HR1.out (.cells #[.int .u64 (word (g) 0), .int .u64 (word (g) 1), .int .u64 (word (g) 2), .int .u64 (word (g) 3)] 33))
    have HGa := hidden (SetAt.new w1 g)
    have HBa := hidden (below_then HB1.out HB1.out.size hba)
    clear hb1 hba
    go_wp2_with fail
    refine (HBB.out _ HLa.out).mono ?_
    rintro e w2 ⟨rfl, rfl⟩
    go_wp2_with fail
    refine (HAA.out _ HLa.out).mono ?_
    rintro e w2 ⟨rfl, hb2⟩
    have HL2 := hidden (HLa.out.below hb2)
    have HR2 := hidden (SetAt.below HRa.out hb2)
    have HG2 := hidden (SetAt.below HGa.out hb2)
    have HB2 := hidden (below_then HBa.out HBa.out.size hb2)
    have hbf := (Below.refl w2.heap.size w2).alloc (Nat.le_refl _) (.cells #[.int .u64 (word (f) 0), .int .u64 (word (f) 1), .int .u64 (word (f) 2), .int .u64 (word (f) 3)] 33)
    have HL3 := hidden (HL2.out.below hbf)
    have HR3 := hidden (SetAt.alloc HR2.out (.cells #[.int .u64 (word (f) 0), .int .u64 (word (f) 1), .int .u64 (word (f) 2), .int .u64 (word (f) 3)] 33))
    have HB3 := hidden (below_then HB2.out HB2.out.size hbf)
    obtain ⟨g0, g1, g2, g3, _, _, _, _⟩ := HG2.out.facts
    obtain ⟨e0, e1, e2, e3, f0, f1, f2', f3⟩ := HR2.out.facts
    have hlt := HR2.out.lt
    have hlt2 := HG2.out.lt
    clear hb2 hbf
    go_wp2_with fail
    refine (HTW.out _).mono ?_
    rintro e w3 ⟨rfl, hb3⟩
    have HR4 := hidden (SetAt.below HR3.out hb3)
    have HB4 := hidden (below_then HB3.out HB3.out.size hb3)
    obtain ⟨q0, q1, q2, q3, r0, r1, r2, r3⟩ := HR4.out.facts
    clear hb3
    go_wp2
    exact ret_setAt Tryz.results62 rfl rfl (SetAt.stored (f := fNone) (g := fTwo 0 f g) HR4.out) (fun n hn => by rw [HR.out, two0]; rfl) ⟨rfl, below_cells HB4.out _ (Nat.le_refl _) _ _ _ _⟩
  · have HR := hidden hr
    have d1 : decide (z < 0) = true := decide_eq_true h1
    clear hr h1
    go_enter Tryz.func62, Tryz.ntmps62
    go_wp2_with fail
    refine HCC.out.mono ?_
    rintro e w1 ⟨rfl, hb1⟩
    have HR1 := hidden (HN.out.below hb1)
    have HB1 := hidden (below_then ((Below.refl w.heap.size w).alloc (Nat.le_refl _) _) (by simp) hb1)
    have hba := (Below.refl w1.heap.size w1).alloc (Nat.le_refl _) (.cells #[.int .u64 (word (g) 0), .int .u64 (word (g) 1), .int .u64 (word (g) 2), .int .u64 (word (g) 3)] 33)
    have HLa := hidden ((HL.out.below hb1).below hba)
    have HRa := hidden (SetAt.alloc HR1.out (.cells #[.int .u64 (word (g) 0), .int .u64 (word (g) 1), .int .u64 (word (g) 2), .int .u64 (word (g) 3)] 33))
    have HGa := hidden (SetAt.new w1 g)
    have HBa := hidden (below_then HB1.out HB1.out.size hba)
    clear hb1 hba
    go_wp2_with fail
    refine (HBB.out _ HLa.out).mono ?_
    rintro e w2 ⟨rfl, rfl⟩
    go_wp2_with fail
    refine (HAA.out _ HLa.out).mono ?_
    rintro e w2 ⟨rfl, hb2⟩
    have HL2 := hidden (HLa.out.below hb2)
    have HR2 := hidden (SetAt.below HRa.out hb2)
    have HG2 := hidden (SetAt.below HGa.out hb2)
    have HB2 := hidden (below_then HBa.out HBa.out.size hb2)
    have hbf := (Below.refl w2.heap.size w2).alloc (Nat.le_refl _) (.cells #[.int .u64 (word (f) 0), .int .u64 (word (f) 1), .int .u64 (word (f) 2), .int .u64 (word (f) 3)] 33)
    have HL3 := hidden (HL2.out.below hbf)
    have HR3 := hidden (SetAt.alloc HR2.out (.cells #[.int .u64 (word (f) 0), .int .u64 (word (f) 1), .int .u64 (word (f) 2), .int .u64 (word (f) 3)] 33))
    have HB3 := hidden (below_then HB2.out HB2.out.size hbf)
    obtain ⟨g0, g1, g2, g3, _, _, _, _⟩ := HG2.out.facts
    obtain ⟨e0, e1, e2, e3, f0, f1, f2', f3⟩ := HR2.out.facts
    have hlt := HR2.out.lt
    have hlt2 := HG2.out.lt
    clear hb2 hbf
    go_wp2_with fail
    refine (HZZ.out _ HL3.out).mono ?_
    rintro e w3 ⟨rfl, rfl⟩
    have HZ0 := hidden word_none
    go_wp2
    refine ret_setAt Tryz.results62 rfl rfl (SetAt.alloc (f := fNone) ?_ _) (fun n hn => by rw [HR.out]) ⟨rfl, (below_cells HB2.out _ (Nat.le_refl _) _ _ _ _).alloc (by have := HB2.out.size; simpa [World.setCell] using this) _⟩
    have := SetAt.stored (f := fNone) (g := fNone) HR2.out
    simp only [word_none_i] at this
    exact this
  · have HR := hidden hr
    have d1 : decide (z < 0) = false := decide_eq_false (by omega)
    have d2 : (x == 0) = true := by simp [h2]
    clear hr h1 h2
    go_enter Tryz.func62, Tryz.ntmps62
    go_wp2_with fail
    refine HCC.out.mono ?_
    rintro e w1 ⟨rfl, hb1⟩
    have HR1 := hidden (HN.out.below hb1)
    have HB1 := hidden (below_then ((Below.refl w.heap.size w).alloc (Nat.le_refl _) _) (by simp) hb1)
    have hba := (Below.refl w1.heap.size w1).alloc (Nat.le_refl _) (.cells #[.int .u64 (word (g) 0), .int .u64 (word (g) 1), .int .u64 (word (g) 2), .int .u64 (word (g) 3)] 33)
    have HLa := hidden ((HL.out.below hb1).below hba)
    have HRa := hidden (SetAt.alloc HR1.out (.cells #[.int .u64 (word (g) 0), .int .u64 (word (g) 1), .int .u64 (word (g) 2), .int .u64 (word (g) 3)] 33))
    have HGa := hidden (SetAt.new w1 g)
    have HBa := hidden (below_then HB1.out HB1.out.size hba)
    clear hb1 hba
    go_wp2_with fail
    refine (HBB.out _ HLa.out).mono ?_
    rintro e w2 ⟨rfl, rfl⟩
    go_wp2_with fail
    refine (HAA.out _ HLa.out).mono ?_
    rintro e w2 ⟨rfl, hb2⟩
    have HL2 := hidden (HLa.out.below hb2)
    have HR2 := hidden (SetAt.below HRa.out hb2)
    have HG2 := hidden (SetAt.below HGa.out hb2)
    have HB2 := hidden (below_then HBa.out HBa.out.size hb2)
    have hbf := (Below.refl w2.heap.size w2).alloc (Nat.le_refl _) (.cells #[.int .u64 (word (f) 0), .int .u64 (word (f) 1), .int .u64 (word (f) 2), .int .u64 (word (f) 3)] 33)
    have HL3 := hidden (HL2.out.below hbf)
    have HR3 := hidden (SetAt.alloc HR2.out (.cells #[.int .u64 (word (f) 0), .int .u64 (word (f) 1), .int .u64 (word (f) 2), .int .u64 (word (f) 3)] 33))
    have HB3 := hidden (below_then HB2.out HB2.out.size hbf)
    obtain ⟨g0, g1, g2, g3, _, _, _, _⟩ := HG2.out.facts
    obtain ⟨e0, e1, e2, e3, f0, f1, f2', f3⟩ := HR2.out.facts
    have hlt := HR2.out.lt
    have hlt2 := HG2.out.lt
    clear hb2 hbf
    go_wp2_with fail
    refine (HZZ.out _ HL3.out).mono ?_
    rintro e w3 ⟨rfl, rfl⟩
    go_wp2_with fail
    refine (HXX.out _ HL3.out).mono ?_
    rintro e w3 ⟨rfl, rfl⟩
    go_wp2_with fail
    refine (HTW.out _).mono ?_
    rintro e w3 ⟨rfl, hb3⟩
    have HR4 := hidden (SetAt.below HR3.out hb3)
    have HB4 := hidden (below_then HB3.out HB3.out.size hb3)
    obtain ⟨q0, q1, q2, q3, r0, r1, r2, r3⟩ := HR4.out.facts
    clear hb3
    go_wp2
    exact ret_setAt Tryz.results62 rfl rfl (SetAt.stored (f := fNone) (g := fTwo 0 f g) HR4.out) (fun n hn => by rw [HR.out, two0]; rfl) ⟨rfl, below_cells HB4.out _ (Nat.le_refl _) _ _ _ _⟩
  · have HR := hidden hr
    have d1 : decide (z < 0) = false := decide_eq_false (by omega)
    have d2 : (x == 0) = false := by simp [h2]
    clear hr h1 h2
    go_enter Tryz.func62, Tryz.ntmps62
    go_wp2_with fail
    refine HCC.out.mono ?_
    rintro e w1 ⟨rfl, hb1⟩
    have HR1 := hidden (HN.out.below hb1)
    have HB1 := hidden (below_then ((Below.refl w.heap.size w).alloc (Nat.le_refl _) _) (by simp) hb1)
    have hba := (Below.refl w1.heap.size w1).alloc (Nat.le_refl _) (.cells #[.int .u64 (word (g) 0), .int .u64 (word (g) 1), .int .u64 (word (g) 2), .int .u64 (word (g) 3)] 33)
    have HLa := hidden ((HL.out.below hb1).below hba)
    have HRa := hidden (SetAt.alloc HR1.out (.cells #[.int .u64 (word (g) 0), .int .u64 (word (g) 1), .int .u64 (word (g) 2), .int .u64 (word (g) 3)] 33))
    have HGa := hidden (SetAt.new w1 g)
    have HBa := hidden (below_then HB1.out HB1.out.size hba)
    clear hb1 hba
    go_wp2_with fail
    refine (HBB.out _ HLa.out).mono ?_
    rintro e w2 ⟨rfl, rfl⟩
    go_wp2_with fail
    refine (HAA.out _ HLa.out).mono ?_
    rintro e w2 ⟨rfl, hb2⟩
    have HL2 := hidden (HLa.out.below hb2)
    have HR2 := hidden (SetAt.below HRa.out hb2)
    have HG2 := hidden (SetAt.below HGa.out hb2)
    have HB2 := hidden (below_then HBa.out HBa.out.size hb2)
    have hbf := (Below.refl w2.heap.size w2).alloc (Nat.le_refl _) (.cells #[.int .u64 (word (f) 0), .int .u64 (word (f) 1), .int .u64 (word (f) 2), .int .u64 (word (f) 3)] 33)
    have HL3 := hidden (HL2.out.below hbf)
    have HR3 := hidden (SetAt.alloc HR2.out (.cells #[.int .u64 (word (f) 0), .int .u64 (word (f) 1), .int .u64 (word (f) 2), .int .u64 (word (f) 3)] 33))
    have HB3 := hidden (below_then HB2.out HB2.out.size hbf)
    obtain ⟨g0, g1, g2, g3, _, _, _, _⟩ := HG2.out.facts
    obtain ⟨e0, e1, e2, e3, f0, f1, f2', f3⟩ := HR2.out.facts
    have hlt := HR2.out.lt
    have hlt2 := HG2.out.lt
    clear hb2 hbf
    go_wp2_with fail
    refine (HZZ.out _ HL3.out).mono ?_
    rintro e w3 ⟨rfl, rfl⟩
    go_wp2_with fail
    refine (HXX.out _ HL3.out).mono ?_
    rintro e w3 ⟨rfl, rfl⟩
    go_wp2
    exact ret_setAt Tryz.results62 rfl rfl (SetAt.alloc (SetAt.stored (f := fNone) (g := f) HR2.out) _) (fun n hn => by rw [HR.out]) ⟨rfl, (below_cells HB2.out _ (Nat.le_refl _) _ _ _ _).alloc (by have := HB2.out.size; simpa [World.setCell] using this) _⟩
theorem rfirst (hl : L.length ≤ 1000) : ∀ (e : Ex), e.ok → ∀ (x z : List Stp) (i : Nat), L = x ++ ops e ++ z → i + 1 = x.length + (ops e).length → TellsS b off cap L 62 i (rfiE e)
  | .set f, _, x, z, i, hL, hi => by
    have he := set_end hL hi
    exact rfiLeaf _ (.inl rfl) (at_end hL hi).1 (at_end hL hi).2 (.inl rfl) (by rw [he]; rfl) (by rw [he]; rfl) (by rw [he]; rfl) (by rw [he]; rfl)
  | .emp, _, x, z, i, hL, hi => by
    have he := emp_end hL hi
    exact rfiLeaf _ (.inl rfl) (at_end hL hi).1 (at_end hL hi).2 (.inr rfl) (by rw [he]; exact (word_none_i 0).symm) (by rw [he]; exact (word_none_i 1).symm) (by rw [he]; exact (word_none_i 2).symm) (by rw [he]; exact (word_none_i 3).symm)
  | .un k a, ⟨hk, ha⟩, x, z, i, hL, hi => by
    obtain ⟨h1, h2⟩ := at_end hL hi
    have hp := ops_pos a
    have hlen : (ops (.un k a)).length = (ops a).length + 1 := by simp [ops]
    exact rfiUn _ (.inl rfl) (j := i - 1) h1 h2 hk (by omega) hl (rfirst hl a ha x ([kStp k] ++ z) (i - 1) (by rw [hL]; simp [ops]) (by omega))
  | .cat a c, ⟨ha, hc⟩, x, z, i, hL, hi => by
    obtain ⟨h1, h2⟩ := at_end hL hi
    obtain ⟨⟨p1, p2⟩, ⟨p3, p4⟩, p5, p6, p7⟩ := two_parts (k := 3) (a := a) (c := c) rfl hL hi
    refine rfiTwo (b := b) (off := off) (cap := cap) h1 h2 p5 p6 hl (by omega) ?_ (rfirst hl a ha _ _ _ p3 p4) (rfirst hl c hc _ _ _ p1 p2) (begins hc hl p1 p2) (rshort hl a ha _ _ _ p3 p4) (rshort hl c hc _ _ _ p1 p2)
    by_cases c1 : shE c < 0
    · exact .inr (.inl ⟨rfl, c1, by simp only [rfiE]; rw [if_pos c1]⟩)
    · by_cases c2 : shE a = 0
      · exact .inr (.inr (.inl ⟨rfl, by omega, c2, by simp only [rfiE]; rw [if_neg c1, if_pos c2]; rfl⟩))
      · exact .inr (.inr (.inr ⟨rfl, by omega, c2, by simp only [rfiE]; rw [if_neg c1, if_neg c2]⟩))
  | .alt a c, ⟨ha, hc⟩, x, z, i, hL, hi => by
    obtain ⟨h1, h2⟩ := at_end hL hi
    obtain ⟨⟨p1, p2⟩, ⟨p3, p4⟩, p5, p6, p7⟩ := two_parts (k := 4) (a := a) (c := c) rfl hL hi
    exact rfiTwo (b := b) (off := off) (cap := cap) h1 h2 p5 p6 hl (by omega) (.inl ⟨rfl, rfl⟩) (rfirst hl a ha _ _ _ p3 p4) (rfirst hl c hc _ _ _ p1 p2) (begins hc hl p1 p2) (rshort hl a ha _ _ _ p3 p4) (rshort hl c hc _ _ _ p1 p2)
end
end Go.Proofs.YthkboclooplpeaaGreatDoor
