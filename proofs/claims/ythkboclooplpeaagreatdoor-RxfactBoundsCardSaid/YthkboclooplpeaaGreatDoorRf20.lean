/- FaApL, FaEvL, put together. -/
import Derived.Test.YthkboclooplpeaaGreatDoorRf19
/- apply at letters: the operation for a step, on what waits. -/
namespace Go.Proofs.YthkboclooplpeaaGreatDoor
open Go.RowKit Go.Lib Go.Joins
attribute [local go_sem] evalR_tmp evalR_const evalR_global evalR_func
/-- the world behind apply's first allocs -/
def apL (w : World) (s : Stp) : World := ((w.alloc (.cells #[.int .i64 s.k, .int .u64 s.a, .int .u64 s.b, .int .u64 s.c, .int .u64 s.d] 73)).alloc (.cells #[.func (.func 86) #[] #[], .func (.func 87) #[] #[], .func (.func 88) #[] #[], .func (.func 89) #[] #[], .func (.func 90) #[] #[], .func (.func 91) #[] #[], .func (.func 90) #[] #[]] 103)).alloc (.cells #[.bool false, .bool false, .int .u64 0, .int .u64 0, .int .u64 0, .int .u64 0, .int .u64 0, .int .u64 0, .int .u64 0, .int .u64 0] 66)
/-- apply's boxes, behind whatever take has done -/
theorem boxesL {w w2 : World} {B : Nat} {s : Stp} (hB : B < w.heap.size) (hg : (apL w s).grownBy w2 (some B)) :
    w2.cell? ⟨w.heap.size, 0, none⟩ = some (.int .i64 s.k) ∧ (∀ j v, (#[.func (.func 86) #[] #[], .func (.func 87) #[] #[], .func (.func 88) #[] #[], .func (.func 89) #[] #[], .func (.func 90) #[] #[], .func (.func 91) #[] #[], .func (.func 90) #[] #[]] : Array Value)[j]? = some v → w2.cell? ⟨w.heap.size + 1, j, none⟩ = some v) ∧ LetAt w2 (w.heap.size + 2) ⟨false, false, fNone, fNone⟩ := by
  have hs1 : (w.alloc (.cells #[.int .i64 s.k, .int .u64 s.a, .int .u64 s.b, .int .u64 s.c, .int .u64 s.d] 73)).heap.size = w.heap.size + 1 := by simp
  have h1 := (hg.block w.heap.size (by simp [apL]; omega) (by simp; omega)).trans ((heap_alloc_old _ _ (by simp; omega)).trans (heap_alloc2_old w _ _))
  have h2 := (hg.block (w.heap.size + 1) (by simp [apL]) (by simp; omega)).trans ((heap_alloc_old _ _ (by simp)).trans (heap_alloc2_new w _ _))
  have h30 := heap_alloc2_new (w.alloc (.cells #[.int .i64 s.k, .int .u64 s.a, .int .u64 s.b, .int .u64 s.c, .int .u64 s.d] 73)) (.cells #[.func (.func 86) #[] #[], .func (.func 87) #[] #[], .func (.func 88) #[] #[], .func (.func 89) #[] #[], .func (.func 90) #[] #[], .func (.func 91) #[] #[], .func (.func 90) #[] #[]] 103) (.cells #[.bool false, .bool false, .int .u64 0, .int .u64 0, .int .u64 0, .int .u64 0, .int .u64 0, .int .u64 0, .int .u64 0, .int .u64 0] 66)
  rw [hs1] at h30
  have h3 := (hg.block (w.heap.size + 2) (by simp [apL]) (by simp; omega)).trans h30
  refine ⟨cell_of_row w2 _ 0 _ _ _ h1, fun j v hj => (cell_of_row w2 _ j _ _ _ h2).trans hj, ?_⟩
  unfold LetAt
  simp only [word_zero]
  exact h3
theorem let_gb (w : World) {b : Nat} (l : Let) : w.grownBy ((((((((((w.setCell ⟨b, 0, none⟩ (.bool l.some)).setCell ⟨b, 1, none⟩ (.bool l.null)).setCell ⟨b, 2, none⟩ (.int .u64 (word l.first 0))).setCell ⟨b, 3, none⟩ (.int .u64 (word l.first 1))).setCell ⟨b, 4, none⟩ (.int .u64 (word l.first 2))).setCell ⟨b, 5, none⟩ (.int .u64 (word l.first 3))).setCell ⟨b, 6, none⟩ (.int .u64 (word l.used 0))).setCell ⟨b, 7, none⟩ (.int .u64 (word l.used 1))).setCell ⟨b, 8, none⟩ (.int .u64 (word l.used 2))).setCell ⟨b, 9, none⟩ (.int .u64 (word l.used 3))) (some b) :=
  gb_sets (gb_sets (gb_sets (gb_sets (gb_sets (gb_sets (gb_sets (gb_sets (gb_sets (gb_set b 0 _) _ _) _ _) _ _) _ _) _ _) _ _) _ _) _ _) _ _
set_option maxHeartbeats 8000000 in
set_option maxRecDepth 100000 in
theorem applyL_set {w : World} {B base g cap : Nat} {s : Stp} {X : List Let} {f : Nat → Bool} (ha : s.a = word f 0) (hb : s.b = word f 1) (hc : s.c = word f 2) (hd : s.d = word f 3) (hk : s.k = 1) (h : StkL w B base g cap X) (_ : X.length ≤ 1000) :
    Calls Tryz.prog 111 #[s.val, .agg #[.func (.func 86) #[] #[], .func (.func 87) #[] #[], .func (.func 88) #[] #[], .func (.func 89) #[] #[], .func (.func 90) #[] #[], .func (.func 91) #[] #[], .func (.func 90) #[] #[]], .func (.func 110) #[] #[.pointer (some ⟨B, 0, none⟩)]] w fun e w' => e = .returned (letV ⟨!noneF f, false, f, f⟩) ∧ StkL w' B base g cap X ∧ w.grownBy w' (some B) := by
  have hB := StkA.lt h
  obtain ⟨_, hg, _⟩ := StkA.row h
  obtain ⟨k, a, b, c, d⟩ := s
  simp only at hk ha hb hc hd
  subst hk ha hb hc hd
  have HG := hidden (show w.grownBy (apL w ⟨1, word f 0, word f 1, word f 2, word f 3⟩) (some B) from gb_trans (gb_alloc _) (gb_trans (gb_alloc _) (gb_alloc _)))
  have HS := hidden (show StkL (apL w ⟨1, word f 0, word f 1, word f 2, word f 3⟩) B base g cap X from ((h.alloc _).alloc _).alloc _)
  have HBX := hidden (fun w2 => boxesL (w := w) (w2 := w2) (B := B) (s := ⟨1, word f 0, word f 1, word f 2, word f 3⟩) hB)
  have HNE := hidden (show B ≠ w.heap.size + 2 ∧ g ≠ w.heap.size + 2 from by omega)
  clear h hg
  unfold apL at HG HS HBX
  unfold Stp.val
  go_enter Tryz.func111, Tryz.ntmps111
  go_wp2_with fail
  refine (letSet_calls f _).mono ?_
  rintro e w1 ⟨rfl, hb1⟩
  have HSN := hidden (HS.out.below hb1)
  have HGN := hidden (gb_trans HG.out (gb_below hb1))
  have hla := (HBX.out w1 (gb_below hb1)).2.2
  obtain ⟨c0, c1, c2, c3, c4, c5, c6, c7, c8, c9⟩ := hla.cells
  have f0 := hla.frozen 0
  have f1 := hla.frozen 1
  have f2 := hla.frozen 2
  have f3 := hla.frozen 3
  have f4 := hla.frozen 4
  have f5 := hla.frozen 5
  have f6 := hla.frozen 6
  have f7 := hla.frozen 7
  have f8 := hla.frozen 8
  have f9 := hla.frozen 9
  have HLA := hidden hla
  clear hla
  clear hb1
  unfold letV
  go_wp2
  exact ret_let (l := ⟨!noneF f, false, f, f⟩) Tryz.results111 rfl rfl (LetAt.stored HLA.out ⟨!noneF f, false, f, f⟩) ⟨rfl, StkA.grown HSN.out (let_gb _ ⟨!noneF f, false, f, f⟩) HNE.out.1 HNE.out.2, gb_over (b := w.heap.size + 1 + 1) HGN.out (by omega) (let_gb _ ⟨!noneF f, false, f, f⟩)⟩
set_option maxHeartbeats 8000000 in
set_option maxRecDepth 100000 in
theorem applyL_emp {w : World} {B base g cap : Nat} {s : Stp} {X : List Let} (hk : s.k = 2) (h : StkL w B base g cap X) (_ : X.length ≤ 1000) :
    Calls Tryz.prog 111 #[s.val, .agg #[.func (.func 86) #[] #[], .func (.func 87) #[] #[], .func (.func 88) #[] #[], .func (.func 89) #[] #[], .func (.func 90) #[] #[], .func (.func 91) #[] #[], .func (.func 90) #[] #[]], .func (.func 110) #[] #[.pointer (some ⟨B, 0, none⟩)]] w fun e w' => e = .returned (letV ⟨true, true, fNone, fNone⟩) ∧ StkL w' B base g cap X ∧ w.grownBy w' (some B) := by
  have hB := StkA.lt h
  obtain ⟨_, hg, _⟩ := StkA.row h
  obtain ⟨k, a, b, c, d⟩ := s
  simp only at hk
  subst hk
  have HG := hidden (show w.grownBy (apL w ⟨2, a, b, c, d⟩) (some B) from gb_trans (gb_alloc _) (gb_trans (gb_alloc _) (gb_alloc _)))
  have HS := hidden (show StkL (apL w ⟨2, a, b, c, d⟩) B base g cap X from ((h.alloc _).alloc _).alloc _)
  have HBX := hidden (fun w2 => boxesL (w := w) (w2 := w2) (B := B) (s := ⟨2, a, b, c, d⟩) hB)
  have HNE := hidden (show B ≠ w.heap.size + 2 ∧ g ≠ w.heap.size + 2 from by omega)
  clear h hg
  unfold apL at HG HS HBX
  unfold Stp.val
  go_enter Tryz.func111, Tryz.ntmps111
  go_wp2_with fail
  refine (letEmp_calls _).mono ?_
  rintro e w1 ⟨rfl, hb1⟩
  have HSN := hidden (HS.out.below hb1)
  have HGN := hidden (gb_trans HG.out (gb_below hb1))
  have hla := (HBX.out w1 (gb_below hb1)).2.2
  obtain ⟨c0, c1, c2, c3, c4, c5, c6, c7, c8, c9⟩ := hla.cells
  have f0 := hla.frozen 0
  have f1 := hla.frozen 1
  have f2 := hla.frozen 2
  have f3 := hla.frozen 3
  have f4 := hla.frozen 4
  have f5 := hla.frozen 5
  have f6 := hla.frozen 6
  have f7 := hla.frozen 7
  have f8 := hla.frozen 8
  have f9 := hla.frozen 9
  have HLA := hidden hla
  clear hla
  clear hb1
  unfold letV
  go_wp2
  exact ret_let (l := ⟨true, true, fNone, fNone⟩) Tryz.results111 rfl rfl (LetAt.stored HLA.out ⟨true, true, fNone, fNone⟩) ⟨rfl, StkA.grown HSN.out (let_gb _ ⟨true, true, fNone, fNone⟩) HNE.out.1 HNE.out.2, gb_over (b := w.heap.size + 1 + 1) HGN.out (by omega) (let_gb _ ⟨true, true, fNone, fNone⟩)⟩
set_option maxHeartbeats 8000000 in
set_option maxRecDepth 100000 in
theorem applyL_star {w : World} {B base g cap : Nat} {s : Stp} {X : List Let} {x : Let} (hk : s.k = 5) (h : StkL w B base g cap (X ++ [x])) (hX : X.length ≤ 1000) :
    Calls Tryz.prog 111 #[s.val, .agg #[.func (.func 86) #[] #[], .func (.func 87) #[] #[], .func (.func 88) #[] #[], .func (.func 89) #[] #[], .func (.func 90) #[] #[], .func (.func 91) #[] #[], .func (.func 90) #[] #[]], .func (.func 110) #[] #[.pointer (some ⟨B, 0, none⟩)]] w fun e w' => e = .returned (letV ⟨true, true, x.first, x.used⟩) ∧ StkL w' B base g cap X ∧ w.grownBy w' (some B) := by
  have hB := StkA.lt h
  obtain ⟨_, hg, _⟩ := StkA.row h
  obtain ⟨k, a, b, c, d⟩ := s
  simp only at hk
  subst hk
  have HG := hidden (show w.grownBy (apL w ⟨5, a, b, c, d⟩) (some B) from gb_trans (gb_alloc _) (gb_trans (gb_alloc _) (gb_alloc _)))
  have HS := hidden (show StkL (apL w ⟨5, a, b, c, d⟩) B base g cap (X ++ [x]) from ((h.alloc _).alloc _).alloc _)
  have HBX := hidden (fun w2 => boxesL (w := w) (w2 := w2) (B := B) (s := ⟨5, a, b, c, d⟩) hB)
  have HNE := hidden (show B ≠ w.heap.size + 2 ∧ g ≠ w.heap.size + 2 from by omega)
  clear h hg
  unfold apL at HG HS HBX
  unfold Stp.val
  have H110 := hidden (takeL_calls (X := X) (x := x) (StkL.drew HS.out) hX)
  go_enter Tryz.func111, Tryz.ntmps111
  go_wp2
  go_region_with (first
    | (go_at_call 110; refine H110.out.mono ?_; rintro e w2 ⟨rfl, hs2, hg2⟩; have HS3 := hidden hs2; have HG3 := hidden hg2; have d4 := (HBX.out w2 (gb_trans gb_drew hg2)).2.1 4 _ rfl; clear hs2 hg2)
    | (go_at_call 90; refine (letEmpty_calls x _).mono ?_; rintro e w3 ⟨rfl, hb3⟩; have HSN := hidden (HS3.out.below hb3); have HGN := hidden (gb_trans HG.out (gb_trans gb_drew (gb_trans HG3.out (gb_below hb3)))); have hla := (HBX.out w3 (gb_trans gb_drew (gb_trans HG3.out (gb_below hb3)))).2.2; obtain ⟨c0, c1, c2, c3, c4, c5, c6, c7, c8, c9⟩ := hla.cells; have f0 := hla.frozen 0; have f1 := hla.frozen 1; have f2 := hla.frozen 2; have f3 := hla.frozen 3; have f4 := hla.frozen 4; have f5 := hla.frozen 5; have f6 := hla.frozen 6; have f7 := hla.frozen 7; have f8 := hla.frozen 8; have f9 := hla.frozen 9; have HLA := hidden hla; clear hla; clear hb3; unfold letV))
  all_goals
    go_wp2
    exact ret_let (l := ⟨true, true, x.first, x.used⟩) Tryz.results111 rfl rfl (LetAt.stored HLA.out ⟨true, true, x.first, x.used⟩) ⟨rfl, StkA.grown HSN.out (let_gb _ ⟨true, true, x.first, x.used⟩) HNE.out.1 HNE.out.2, gb_over (b := w.heap.size + 1 + 1) HGN.out (by omega) (let_gb _ ⟨true, true, x.first, x.used⟩)⟩
set_option maxHeartbeats 8000000 in
set_option maxRecDepth 100000 in
theorem applyL_plus {w : World} {B base g cap : Nat} {s : Stp} {X : List Let} {x : Let} (hk : s.k = 6) (h : StkL w B base g cap (X ++ [x])) (hX : X.length ≤ 1000) :
    Calls Tryz.prog 111 #[s.val, .agg #[.func (.func 86) #[] #[], .func (.func 87) #[] #[], .func (.func 88) #[] #[], .func (.func 89) #[] #[], .func (.func 90) #[] #[], .func (.func 91) #[] #[], .func (.func 90) #[] #[]], .func (.func 110) #[] #[.pointer (some ⟨B, 0, none⟩)]] w fun e w' => e = .returned (letV x) ∧ StkL w' B base g cap X ∧ w.grownBy w' (some B) := by
  have hB := StkA.lt h
  obtain ⟨_, hg, _⟩ := StkA.row h
  obtain ⟨k, a, b, c, d⟩ := s
  simp only at hk
  subst hk
  have HG := hidden (show w.grownBy (apL w ⟨6, a, b, c, d⟩) (some B) from gb_trans (gb_alloc _) (gb_trans (gb_alloc _) (gb_alloc _)))
  have HS := hidden (show StkL (apL w ⟨6, a, b, c, d⟩) B base g cap (X ++ [x]) from ((h.alloc _).alloc _).alloc _)
  have HBX := hidden (fun w2 => boxesL (w := w) (w2 := w2) (B := B) (s := ⟨6, a, b, c, d⟩) hB)
  have HNE := hidden (show B ≠ w.heap.size + 2 ∧ g ≠ w.heap.size + 2 from by omega)
  clear h hg
  unfold apL at HG HS HBX
  unfold Stp.val
  have H110 := hidden (takeL_calls (X := X) (x := x) (StkL.drew HS.out) hX)
  go_enter Tryz.func111, Tryz.ntmps111
  go_wp2
  go_region_with (first
    | (go_at_call 110; refine H110.out.mono ?_; rintro e w2 ⟨rfl, hs2, hg2⟩; have HS3 := hidden hs2; have HG3 := hidden hg2; have d5 := (HBX.out w2 (gb_trans gb_drew hg2)).2.1 5 _ rfl; clear hs2 hg2)
    | (go_at_call 91; refine (letSame_calls x _).mono ?_; rintro e w3 ⟨rfl, hb3⟩; have HSN := hidden (HS3.out.below hb3); have HGN := hidden (gb_trans HG.out (gb_trans gb_drew (gb_trans HG3.out (gb_below hb3)))); have hla := (HBX.out w3 (gb_trans gb_drew (gb_trans HG3.out (gb_below hb3)))).2.2; obtain ⟨c0, c1, c2, c3, c4, c5, c6, c7, c8, c9⟩ := hla.cells; have f0 := hla.frozen 0; have f1 := hla.frozen 1; have f2 := hla.frozen 2; have f3 := hla.frozen 3; have f4 := hla.frozen 4; have f5 := hla.frozen 5; have f6 := hla.frozen 6; have f7 := hla.frozen 7; have f8 := hla.frozen 8; have f9 := hla.frozen 9; have HLA := hidden hla; clear hla; clear hb3; unfold letV))
  all_goals
    go_wp2
    exact ret_let (l := x) Tryz.results111 rfl rfl (LetAt.stored HLA.out x) ⟨rfl, StkA.grown HSN.out (let_gb _ x) HNE.out.1 HNE.out.2, gb_over (b := w.heap.size + 1 + 1) HGN.out (by omega) (let_gb _ x)⟩
set_option maxHeartbeats 8000000 in
set_option maxRecDepth 100000 in
theorem applyL_opt {w : World} {B base g cap : Nat} {s : Stp} {X : List Let} {x : Let} (hk : s.k = 7) (h : StkL w B base g cap (X ++ [x])) (hX : X.length ≤ 1000) :
    Calls Tryz.prog 111 #[s.val, .agg #[.func (.func 86) #[] #[], .func (.func 87) #[] #[], .func (.func 88) #[] #[], .func (.func 89) #[] #[], .func (.func 90) #[] #[], .func (.func 91) #[] #[], .func (.func 90) #[] #[]], .func (.func 110) #[] #[.pointer (some ⟨B, 0, none⟩)]] w fun e w' => e = .returned (letV ⟨true, true, x.first, x.used⟩) ∧ StkL w' B base g cap X ∧ w.grownBy w' (some B) := by
  have hB := StkA.lt h
  obtain ⟨_, hg, _⟩ := StkA.row h
  obtain ⟨k, a, b, c, d⟩ := s
  simp only at hk
  subst hk
  have HG := hidden (show w.grownBy (apL w ⟨7, a, b, c, d⟩) (some B) from gb_trans (gb_alloc _) (gb_trans (gb_alloc _) (gb_alloc _)))
  have HS := hidden (show StkL (apL w ⟨7, a, b, c, d⟩) B base g cap (X ++ [x]) from ((h.alloc _).alloc _).alloc _)
  have HBX := hidden (fun w2 => boxesL (w := w) (w2 := w2) (B := B) (s := ⟨7, a, b, c, d⟩) hB)
  have HNE := hidden (show B ≠ w.heap.size + 2 ∧ g ≠ w.heap.size + 2 from by omega)
  clear h hg
  unfold apL at HG HS HBX
  unfold Stp.val
  have H110 := hidden (takeL_calls (X := X) (x := x) (StkL.drew HS.out) hX)
  go_enter Tryz.func111, Tryz.ntmps111
  go_wp2
  go_region_with (first
    | (go_at_call 110; refine H110.out.mono ?_; rintro e w2 ⟨rfl, hs2, hg2⟩; have HS3 := hidden hs2; have HG3 := hidden hg2; have d6 := (HBX.out w2 (gb_trans gb_drew hg2)).2.1 6 _ rfl; clear hs2 hg2)
    | (go_at_call 90; refine (letEmpty_calls x _).mono ?_; rintro e w3 ⟨rfl, hb3⟩; have HSN := hidden (HS3.out.below hb3); have HGN := hidden (gb_trans HG.out (gb_trans gb_drew (gb_trans HG3.out (gb_below hb3)))); have hla := (HBX.out w3 (gb_trans gb_drew (gb_trans HG3.out (gb_below hb3)))).2.2; obtain ⟨c0, c1, c2, c3, c4, c5, c6, c7, c8, c9⟩ := hla.cells; have f0 := hla.frozen 0; have f1 := hla.frozen 1; have f2 := hla.frozen 2; have f3 := hla.frozen 3; have f4 := hla.frozen 4; have f5 := hla.frozen 5; have f6 := hla.frozen 6; have f7 := hla.frozen 7; have f8 := hla.frozen 8; have f9 := hla.frozen 9; have HLA := hidden hla; clear hla; clear hb3; unfold letV))
  all_goals
    go_wp2
    exact ret_let (l := ⟨true, true, x.first, x.used⟩) Tryz.results111 rfl rfl (LetAt.stored HLA.out ⟨true, true, x.first, x.used⟩) ⟨rfl, StkA.grown HSN.out (let_gb _ ⟨true, true, x.first, x.used⟩) HNE.out.1 HNE.out.2, gb_over (b := w.heap.size + 1 + 1) HGN.out (by omega) (let_gb _ ⟨true, true, x.first, x.used⟩)⟩
set_option maxHeartbeats 8000000 in
set_option maxRecDepth 100000 in
theorem applyL_cat {w : World} {B base g cap : Nat} {s : Stp} {X : List Let} {x y : Let} (hk : s.k = 3) (h : StkL w B base g cap (X ++ [x, y])) (hX : X.length ≤ 999) :
    Calls Tryz.prog 111 #[s.val, .agg #[.func (.func 86) #[] #[], .func (.func 87) #[] #[], .func (.func 88) #[] #[], .func (.func 89) #[] #[], .func (.func 90) #[] #[], .func (.func 91) #[] #[], .func (.func 90) #[] #[]], .func (.func 110) #[] #[.pointer (some ⟨B, 0, none⟩)]] w fun e w' => e = .returned (letV (thenL x y)) ∧ StkL w' B base g cap X ∧ w.grownBy w' (some B) := by
  have hB := StkA.lt h
  obtain ⟨_, hg, _⟩ := StkA.row h
  obtain ⟨k, a, b, c, d⟩ := s
  simp only at hk
  subst hk
  have HG := hidden (show w.grownBy (apL w ⟨3, a, b, c, d⟩) (some B) from gb_trans (gb_alloc _) (gb_trans (gb_alloc _) (gb_alloc _)))
  have HS := hidden (show StkL (apL w ⟨3, a, b, c, d⟩) B base g cap (X ++ [x, y]) from ((h.alloc _).alloc _).alloc _)
  have HBX := hidden (fun w2 => boxesL (w := w) (w2 := w2) (B := B) (s := ⟨3, a, b, c, d⟩) hB)
  have HNE := hidden (show B ≠ w.heap.size + 2 ∧ g ≠ w.heap.size + 2 from by omega)
  clear h hg
  unfold apL at HG HS HBX
  unfold Stp.val
  have hX1 : (X ++ [x]).length ≤ 1000 := by simp; omega
  rw [show X ++ [x, y] = (X ++ [x]) ++ [y] by simp] at HS
  have H110 := hidden (takeL_calls HS.out hX1)
  go_enter Tryz.func111, Tryz.ntmps111
  go_wp2_with fail
  refine H110.out.mono ?_
  rintro e w2 ⟨rfl, hs2, hg2⟩
  have HS3 := hidden hs2
  have HG3 := hidden hg2
  clear hs2 hg2
  unfold letV
  go_wp2_with fail
  have HG3' := hidden (gb_trans HG3.out (gb_alloc (.cells #[.bool y.some, .bool y.null, .int .u64 (word (y.first) 0), .int .u64 (word (y.first) 1), .int .u64 (word (y.first) 2), .int .u64 (word (y.first) 3), .int .u64 (word (y.used) 0), .int .u64 (word (y.used) 1), .int .u64 (word (y.used) 2), .int .u64 (word (y.used) 3)] 66)))
  refine (takeL_calls (StkL.alloc HS3.out _) (by omega)).mono ?_
  rintro e w3 ⟨rfl, hs3, hg3⟩
  have HS4 := hidden hs3
  have HG4 := hidden (gb_trans HG3'.out hg3)
  have hly := (hg3.block w2.heap.size (by simp) (by have := HS3.out.1.lt; simp; omega)).trans (heap_alloc_new w2 _)
  have c0 := (HBX.out w3 HG4.out).1
  have d2 := (HBX.out w3 HG4.out).2.1 2 _ rfl
  have hlw : w.heap.size + 3 ≤ w3.heap.size := by have := HG4.out.size; simp at this; omega
  have hl0 : w.heap.size < w3.heap.size := by omega
  have hl1 : w.heap.size + 1 < w3.heap.size := by omega
  have hl2 : w2.heap.size < w3.heap.size := by have := hg3.size; simp at this; omega
  have LY := hidden (show LetAt w3 w2.heap.size y from hly)
  obtain ⟨y0, y1, y2, y3, y4, y5, y6, y7, y8, y9⟩ := LY.out.cells
  clear hs3 hg3 hly
  unfold letV
  go_wp2_with fail
  refine (letThen_calls x y _).mono ?_
  rintro e w4 ⟨rfl, hb4⟩
  have HSN := hidden ((StkL.alloc HS4.out _).below hb4)
  have hgl := gb_trans (gb_trans HG4.out (gb_alloc (.cells #[.bool x.some, .bool x.null, .int .u64 (word (x.first) 0), .int .u64 (word (x.first) 1), .int .u64 (word (x.first) 2), .int .u64 (word (x.first) 3), .int .u64 (word (x.used) 0), .int .u64 (word (x.used) 1), .int .u64 (word (x.used) 2), .int .u64 (word (x.used) 3)] 66))) (gb_below hb4)
  have HGN := hidden (gb_trans HG.out hgl)
  have hla := (HBX.out w4 hgl).2.2
  obtain ⟨c0, c1, c2, c3, c4, c5, c6, c7, c8, c9⟩ := hla.cells
  have f0 := hla.frozen 0
  have f1 := hla.frozen 1
  have f2 := hla.frozen 2
  have f3 := hla.frozen 3
  have f4 := hla.frozen 4
  have f5 := hla.frozen 5
  have f6 := hla.frozen 6
  have f7 := hla.frozen 7
  have f8 := hla.frozen 8
  have f9 := hla.frozen 9
  have HLA := hidden hla
  clear hla
  clear hb4 hgl
  unfold letV
  go_wp2
  exact ret_let (l := (thenL x y)) Tryz.results111 rfl rfl (LetAt.stored HLA.out (thenL x y)) ⟨rfl, StkA.grown HSN.out (let_gb _ (thenL x y)) HNE.out.1 HNE.out.2, gb_over (b := w.heap.size + 1 + 1) HGN.out (by omega) (let_gb _ (thenL x y))⟩
set_option maxHeartbeats 8000000 in
set_option maxRecDepth 100000 in
theorem applyL_alt {w : World} {B base g cap : Nat} {s : Stp} {X : List Let} {x y : Let} (hk : s.k = 4) (h : StkL w B base g cap (X ++ [x, y])) (hX : X.length ≤ 999) :
    Calls Tryz.prog 111 #[s.val, .agg #[.func (.func 86) #[] #[], .func (.func 87) #[] #[], .func (.func 88) #[] #[], .func (.func 89) #[] #[], .func (.func 90) #[] #[], .func (.func 91) #[] #[], .func (.func 90) #[] #[]], .func (.func 110) #[] #[.pointer (some ⟨B, 0, none⟩)]] w fun e w' => e = .returned (letV ⟨x.some || y.some, x.null || y.null, fAny [x.first, y.first], fAny [x.used, y.used]⟩) ∧ StkL w' B base g cap X ∧ w.grownBy w' (some B) := by
  have hB := StkA.lt h
  obtain ⟨_, hg, _⟩ := StkA.row h
  obtain ⟨k, a, b, c, d⟩ := s
  simp only at hk
  subst hk
  have HG := hidden (show w.grownBy (apL w ⟨4, a, b, c, d⟩) (some B) from gb_trans (gb_alloc _) (gb_trans (gb_alloc _) (gb_alloc _)))
  have HS := hidden (show StkL (apL w ⟨4, a, b, c, d⟩) B base g cap (X ++ [x, y]) from ((h.alloc _).alloc _).alloc _)
  have HBX := hidden (fun w2 => boxesL (w := w) (w2 := w2) (B := B) (s := ⟨4, a, b, c, d⟩) hB)
  have HNE := hidden (show B ≠ w.heap.size + 2 ∧ g ≠ w.heap.size + 2 from by omega)
  clear h hg
  unfold apL at HG HS HBX
  unfold Stp.val
  have hX1 : (X ++ [x]).length ≤ 1000 := by simp; omega
  rw [show X ++ [x, y] = (X ++ [x]) ++ [y] by simp] at HS
  have H110 := hidden (takeL_calls HS.out hX1)
  go_enter Tryz.func111, Tryz.ntmps111
  go_wp2_with fail
  refine H110.out.mono ?_
  rintro e w2 ⟨rfl, hs2, hg2⟩
  have HS3 := hidden hs2
  have HG3 := hidden hg2
  clear hs2 hg2
  unfold letV
  go_wp2_with fail
  have HG3' := hidden (gb_trans HG3.out (gb_alloc (.cells #[.bool y.some, .bool y.null, .int .u64 (word (y.first) 0), .int .u64 (word (y.first) 1), .int .u64 (word (y.first) 2), .int .u64 (word (y.first) 3), .int .u64 (word (y.used) 0), .int .u64 (word (y.used) 1), .int .u64 (word (y.used) 2), .int .u64 (word (y.used) 3)] 66)))
  refine (takeL_calls (StkL.alloc HS3.out _) (by omega)).mono ?_
  rintro e w3 ⟨rfl, hs3, hg3⟩
  have HS4 := hidden hs3
  have HG4 := hidden (gb_trans HG3'.out hg3)
  have hly := (hg3.block w2.heap.size (by simp) (by have := HS3.out.1.lt; simp; omega)).trans (heap_alloc_new w2 _)
  have c0 := (HBX.out w3 HG4.out).1
  have d3 := (HBX.out w3 HG4.out).2.1 3 _ rfl
  have hlw : w.heap.size + 3 ≤ w3.heap.size := by have := HG4.out.size; simp at this; omega
  have hl0 : w.heap.size < w3.heap.size := by omega
  have hl1 : w.heap.size + 1 < w3.heap.size := by omega
  have hl2 : w2.heap.size < w3.heap.size := by have := hg3.size; simp at this; omega
  have LY := hidden (show LetAt w3 w2.heap.size y from hly)
  obtain ⟨y0, y1, y2, y3, y4, y5, y6, y7, y8, y9⟩ := LY.out.cells
  clear hs3 hg3 hly
  unfold letV
  go_wp2_with fail
  refine (letOr_calls x y _).mono ?_
  rintro e w4 ⟨rfl, hb4⟩
  have HSN := hidden ((StkL.alloc HS4.out _).below hb4)
  have hgl := gb_trans (gb_trans HG4.out (gb_alloc (.cells #[.bool x.some, .bool x.null, .int .u64 (word (x.first) 0), .int .u64 (word (x.first) 1), .int .u64 (word (x.first) 2), .int .u64 (word (x.first) 3), .int .u64 (word (x.used) 0), .int .u64 (word (x.used) 1), .int .u64 (word (x.used) 2), .int .u64 (word (x.used) 3)] 66))) (gb_below hb4)
  have HGN := hidden (gb_trans HG.out hgl)
  have hla := (HBX.out w4 hgl).2.2
  obtain ⟨c0, c1, c2, c3, c4, c5, c6, c7, c8, c9⟩ := hla.cells
  have f0 := hla.frozen 0
  have f1 := hla.frozen 1
  have f2 := hla.frozen 2
  have f3 := hla.frozen 3
  have f4 := hla.frozen 4
  have f5 := hla.frozen 5
  have f6 := hla.frozen 6
  have f7 := hla.frozen 7
  have f8 := hla.frozen 8
  have f9 := hla.frozen 9
  have HLA := hidden hla
  clear hla
  clear hb4 hgl
  unfold letV
  go_wp2
  exact ret_let (l := ⟨x.some || y.some, x.null || y.null, fAny [x.first, y.first], fAny [x.used, y.used]⟩) Tryz.results111 rfl rfl (LetAt.stored HLA.out ⟨x.some || y.some, x.null || y.null, fAny [x.first, y.first], fAny [x.used, y.used]⟩) ⟨rfl, StkA.grown HSN.out (let_gb _ ⟨x.some || y.some, x.null || y.null, fAny [x.first, y.first], fAny [x.used, y.used]⟩) HNE.out.1 HNE.out.2, gb_over (b := w.heap.size + 1 + 1) HGN.out (by omega) (let_gb _ ⟨x.some || y.some, x.null || y.null, fAny [x.first, y.first], fAny [x.used, y.used]⟩)⟩
end Go.Proofs.YthkboclooplpeaaGreatDoor

/- evaluate at letters: the whole. -/
namespace Go.Proofs.YthkboclooplpeaaGreatDoor
open Go.RowKit Go.Lib Go.Joins
attribute [local go_sem] evalR_tmp evalR_const evalR_global evalR_func
theorem ret_let_tmp {fn : Func} {R : Ending → World → Prop} {a : Act} {w : World} {B p u : Nat} {l : Let} {v : Value} (hf : fn.results = #[.cell p 66, .tmp u]) (hp : a.tmps.getD p undef = .pointer (some ⟨B, 0, none⟩))
    (hv : a.tmps.getD u undef = v) (hd : a.defers = []) (hS : LetAt w B l) (hR : R (.returned (.tuple #[letV l, v])) w) : bodyPost Tryz.prog fn R .ret a w := by
  refine bodyPost_ret ?_ hd hR
  rw [results_cell_tmp hf, hp]
  simp only [asAddr, Sem.run_pure, Result.andThen]
  rw [run_loadVar_row w B 66 66 _ (0, 0) _ hS Tryz.underlying66 rfl (by kernel_rfl)]
  simp only [hv]
  rfl
theorem applyL_next {s : Stp} {T T' : List Ex} (h : Next s T T') (hl : T.length ≤ 999) : ∃ (r : Ex) (Y : List Ex), T' = Y ++ [r] ∧ Y.length ≤ T.length ∧ ∀ (w : World) (B base g cap : Nat), StkL w B base g cap (T.map letE) →
    Calls Tryz.prog 111 #[s.val, .agg #[.func (.func 86) #[] #[], .func (.func 87) #[] #[], .func (.func 88) #[] #[], .func (.func 89) #[] #[], .func (.func 90) #[] #[], .func (.func 91) #[] #[], .func (.func 90) #[] #[]], .func (.func 110) #[] #[.pointer (some ⟨B, 0, none⟩)]] w fun e w' => e = .returned (letV (letE r)) ∧ StkL w' B base g cap (Y.map letE) ∧ w.grownBy w' (some B) := by
  cases h with
  | set r h e => exact ⟨.set (bitsE s), T, rfl, Nat.le_refl _, fun w B base g cap hs => applyL_set (congrArg Stp.a e) (congrArg Stp.b e) (congrArg Stp.c e) (congrArg Stp.d e) h hs (by simp; omega)⟩
  | emp r e => exact ⟨.emp, T, rfl, Nat.le_refl _, fun w B base g cap hs => applyL_emp (congrArg Stp.k e) hs (by simp; omega)⟩
  | cat r a b e =>
    refine ⟨.cat a b, r, rfl, by simp, fun w B base g cap hs => ?_⟩
    rw [List.map_append] at hs
    exact applyL_cat (congrArg Stp.k e) hs (by simp at hl ⊢; omega)
  | alt r a b e =>
    refine ⟨.alt a b, r, rfl, by simp, fun w B base g cap hs => ?_⟩
    rw [List.map_append] at hs
    have h := applyL_alt (congrArg Stp.k e) hs (by simp at hl ⊢; omega)
    rw [any_two, any_two] at h
    exact h
  | un r a e h =>
    refine ⟨.un s.k a, r, rfl, by simp, fun w B base g cap hs => ?_⟩
    rw [List.map_append] at hs
    have hr : (r.map letE).length ≤ 1000 := by simp at hl ⊢; omega
    rcases h with h | h | h
    · rw [h]; exact applyL_star h hs hr
    · rw [h]; exact applyL_plus h hs hr
    · rw [h]; exact applyL_opt h hs hr
theorem infoL : (Tryz.prog.info? 66).map (fun i => (i.zero, i.size, i.bytes)) = some (some (.agg #[.bool false, .bool false, .int .u64 0, .int .u64 0, .int .u64 0, .int .u64 0, .int .u64 0, .int .u64 0, .int .u64 0, .int .u64 0]), 10, 72) := by kernel_rfl
set_option maxHeartbeats 8000000 in
set_option maxRecDepth 100000 in
theorem evalL_none {C : Nat → Prop} {v0 : Value} {L : List Stp} {w : World} (h : SlX C w v0 L) (hC : ∀ b, C b → b < w.heap.size) (hz : (measV L).2 ≠ 0) :
    Calls Tryz.prog 85 #[v0, .agg #[.func (.func 86) #[] #[], .func (.func 87) #[] #[], .func (.func 88) #[] #[], .func (.func 89) #[] #[], .func (.func 90) #[] #[], .func (.func 91) #[] #[], .func (.func 90) #[] #[]]] w fun e w' => e = .returned (.tuple #[letV ⟨false, false, fNone, fNone⟩, .bool false]) ∧ Below w.heap.size w w' := by
  have hba := ((Below.refl w.heap.size w).alloc (Nat.le_refl _) (.cells #[.func (.func 86) #[] #[], .func (.func 87) #[] #[], .func (.func 88) #[] #[], .func (.func 89) #[] #[], .func (.func 90) #[] #[], .func (.func 91) #[] #[], .func (.func 90) #[] #[]] 103)).alloc (by simp) (.cells #[.bool false, .bool false, .int .u64 0, .int .u64 0, .int .u64 0, .int .u64 0, .int .u64 0, .int .u64 0, .int .u64 0, .int .u64 0] 66)
  have hsl := h.below (C' := fun b => b < ((w.alloc (.cells #[.func (.func 86) #[] #[], .func (.func 87) #[] #[], .func (.func 88) #[] #[], .func (.func 89) #[] #[], .func (.func 90) #[] #[], .func (.func 91) #[] #[], .func (.func 90) #[] #[]] 103)).alloc (.cells #[.bool false, .bool false, .int .u64 0, .int .u64 0, .int .u64 0, .int .u64 0, .int .u64 0, .int .u64 0, .int .u64 0, .int .u64 0] 66)).heap.size) (w' := (w.alloc (.cells #[.func (.func 86) #[] #[], .func (.func 87) #[] #[], .func (.func 88) #[] #[], .func (.func 89) #[] #[], .func (.func 90) #[] #[], .func (.func 91) #[] #[], .func (.func 90) #[] #[]] 103)).alloc (.cells #[.bool false, .bool false, .int .u64 0, .int .u64 0, .int .u64 0, .int .u64 0, .int .u64 0, .int .u64 0, .int .u64 0, .int .u64 0] 66)) fun b hb => ⟨Nat.lt_of_lt_of_le (hC b hb) hba.size, hba.block b (hC b hb)⟩
  have HCK := hidden (check_slX hsl fun b hb => hb)
  have q1 : ((measV L).2 != 0) = true := by simpa using hz
  have HB := hidden hba
  have HT4 := hidden (heap_alloc2_new w (.cells #[.func (.func 86) #[] #[], .func (.func 87) #[] #[], .func (.func 88) #[] #[], .func (.func 89) #[] #[], .func (.func 90) #[] #[], .func (.func 91) #[] #[], .func (.func 90) #[] #[]] 103) (.cells #[.bool false, .bool false, .int .u64 0, .int .u64 0, .int .u64 0, .int .u64 0, .int .u64 0, .int .u64 0, .int .u64 0, .int .u64 0] 66))
  obtain ⟨av, cv, rfl, _⟩ := h
  generalize (measV L).2 = z at *
  generalize hvz : letV ⟨false, false, fNone, fNone⟩ = vz
  have HVL := hidden hvz
  clear hsl hz hba hvz
  go_enter Tryz.func85, Tryz.ntmps85
  go_wp2_with fail
  refine HCK.out.mono ?_
  rintro e w1 ⟨rfl, hb⟩
  have HB1 := hidden (below_then HB.out HB.out.size hb)
  have ht1 := (hb.block (w.heap.size + 1) (by simp)).trans HT4.out
  have HT5 := hidden ((heap_alloc_old w1 (.cells #[.bool false, .bool false, .int .u64 0, .int .u64 0, .int .u64 0, .int .u64 0, .int .u64 0, .int .u64 0, .int .u64 0, .int .u64 0] 66) (by have := (Array.getElem?_eq_some_iff.1 ht1).1; omega)).trans ht1)
  have HB2 := hidden (HB1.out.alloc (by have := HB1.out.size; omega) (.cells #[.bool false, .bool false, .int .u64 0, .int .u64 0, .int .u64 0, .int .u64 0, .int .u64 0, .int .u64 0, .int .u64 0, .int .u64 0] 66))
  have hsz := HB1.out.size
  have hlw : w.heap.size + 1 < w1.heap.size := (Array.getElem?_eq_some_iff.1 ht1).1
  clear hb ht1
  go_wp2_with (refine store_row (B := w.heap.size + 1) (cs := #[.bool false, .bool false, .int .u64 0, .int .u64 0, .int .u64 0, .int .u64 0, .int .u64 0, .int .u64 0, .int .u64 0, .int .u64 0]) (old := #[.bool false, .bool false, .int .u64 0, .int .u64 0, .int .u64 0, .int .u64 0, .int .u64 0, .int .u64 0, .int .u64 0, .int .u64 0]) (t := 66) rfl (ty := 66) (x := .tmp 4) (y := .tmp 15) rfl rfl rfl HT5.out 10 (by kernel_rfl) rfl rfl (by kernel_rfl) ?_; intro w2 hw2 hg2; have HL2 := hidden hw2; have HG2 := hidden hg2; clear hw2 hg2)
  exact ret_let_tmp (l := ⟨false, false, fNone, fNone⟩) (v := .bool false) Tryz.results85 rfl rfl rfl (by unfold LetAt; simp only [word_zero]; exact HL2.out) ⟨by rw [← HVL.out], HB2.out.grown HG2.out (by simp; omega) (fun j e => by simp only [Option.some.injEq] at e; omega)⟩
set_option maxHeartbeats 8000000 in
set_option maxRecDepth 100000 in
theorem evalL_calls {C : Nat → Prop} {v0 : Value} {L : List Stp} {w : World} (h : SlX C w v0 L) (hC : ∀ b, C b → b < w.heap.size) (hz : (measV L).2 = 0) (hwd : ∀ s ∈ L, s.wide) :
    Calls Tryz.prog 85 #[v0, .agg #[.func (.func 86) #[] #[], .func (.func 87) #[] #[], .func (.func 88) #[] #[], .func (.func 89) #[] #[], .func (.func 90) #[] #[], .func (.func 91) #[] #[], .func (.func 90) #[] #[]]] w fun e w' => e = .returned (.tuple #[letV (letE (treeE L)), .bool true]) ∧ Below w.heap.size w w' := by
  obtain ⟨i0, hi, hz0, hz1, hz2⟩ := info_parts infoL
  obtain ⟨W, hW⟩ : ∃ W, W = (w.alloc (.cells #[.func (.func 86) #[] #[], .func (.func 87) #[] #[], .func (.func 88) #[] #[], .func (.func 89) #[] #[], .func (.func 90) #[] #[], .func (.func 91) #[] #[], .func (.func 90) #[] #[]] 103)).alloc (.cells #[.bool false, .bool false, .int .u64 0, .int .u64 0, .int .u64 0, .int .u64 0, .int .u64 0, .int .u64 0, .int .u64 0, .int .u64 0] 66) := ⟨_, rfl⟩
  have hba : Below w.heap.size w W := by rw [hW]; exact ((Below.refl w.heap.size w).alloc (Nat.le_refl _) _).alloc (by simp) _
  have hWs : W.heap.size = w.heap.size + 2 := by rw [hW]; simp
  have hdo : W.heap[w.heap.size]? = some (.cells #[.func (.func 86) #[] #[], .func (.func 87) #[] #[], .func (.func 88) #[] #[], .func (.func 89) #[] #[], .func (.func 90) #[] #[], .func (.func 91) #[] #[], .func (.func 90) #[] #[]] 103) := by rw [hW]; exact heap_alloc2_old w _ _
  have ht4 : LetAt W (w.heap.size + 1) ⟨false, false, fNone, fNone⟩ := by
    unfold LetAt
    simp only [word_zero]
    rw [hW]
    exact heap_alloc2_new w _ _
  have hsl := h.below (C' := fun b => b < w.heap.size) (w' := W) fun b hb => ⟨hC b hb, hba.block b (hC b hb)⟩
  have hCK := check_slX hsl fun b hb => by omega
  rw [hz, hW] at hCK
  have HCK := hidden hCK
  obtain ⟨m, hm, hm512⟩ := high_range hz
  have HHI := hidden (fun W2 (hb : Below W.heap.size W W2) => (show Calls Tryz.prog 79 #[v0] W2 fun e w' => e = .returned (.int .i64 (m : Int)) ∧ Below W2.heap.size W2 w' by
    have := high_slX (hsl.below (C' := fun b => b < W2.heap.size) (w' := W2) fun b hb' => ⟨by have := hb.size; omega, hb.block b (by omega)⟩) (fun b hb => hb)
    rw [hm] at this
    exact this))
  obtain ⟨h512, hE⟩ := meas_expr hz
  have hpos := expr_ne hE
  obtain ⟨hone, hok, _⟩ := tree_of hE hwd
  obtain ⟨a, cap, rfl, hl, hcap, _, hS⟩ := h
  obtain ⟨b, off, rfl, hCb, hc⟩ := hS.2 hpos
  have hbl := hC b hCb
  have HNX := hidden (fun k (hk : k < L.length) => next_of hk hE.1 hwd (forms_at hE.1 hwd k (by omega)))
  have HFO := hidden (fun k (hk : k ≤ L.length) => forms_at hE.1 hwd k hk)
  have HCE := hidden (fun W2 (hW2 : Below (w.heap.size + 2) W W2) k (hk : k < L.length) => (hc k hk).kept (w' := W2) ((hW2.block b (by omega)).trans (hba.block b hbl)))
  have HDO := hidden (fun W2 (hW2 : Below (w.heap.size + 2) W W2) => (show ∀ j v, (#[.func (.func 86) #[] #[], .func (.func 87) #[] #[], .func (.func 88) #[] #[], .func (.func 89) #[] #[], .func (.func 90) #[] #[], .func (.func 91) #[] #[], .func (.func 90) #[] #[]] : Array Value)[j]? = some v → W2.cell? ⟨w.heap.size, j, none⟩ = some v from fun j v hj =>
    (cell_of_row W2 _ j _ _ _ ((hW2.block _ (by omega)).trans hdo)).trans hj))
  have HT4 := hidden (fun W2 (hW2 : Below (w.heap.size + 2) W W2) => (show LetAt W2 (w.heap.size + 1) ⟨false, false, fNone, fNone⟩ from (hW2.block _ (by omega)).trans ht4))
  have HONE := hidden hone
  have HBA := hidden hba
  have HTL := hidden (fun k (hk : k ≤ L.length) => (show (trees L k).length ≤ 512 from by
    obtain ⟨g1, g2⟩ := HFO.out k hk
    have h3 : ∀ es : List Ex, es.length ≤ (es.flatMap ops).length := fun es => by
      induction es with
      | nil => simp
      | cons e r ih =>
        have := ops_pos e
        simp only [List.flatMap_cons, List.length_append, List.length_cons]
        omega
    have h2 := h3 (trees L k)
    rw [g1, List.length_take] at h2
    omega))
  obtain ⟨n, hn⟩ : ∃ n, n = L.length := ⟨_, rfl⟩
  rw [← hn] at HNX HFO HCE HONE HTL h512 hpos hl hCK HCK HHI ⊢
  obtain ⟨T, hT⟩ : ∃ T, T = trees L := ⟨_, rfl⟩
  rw [← hT] at HNX HFO HONE HTL
  have HT0 := hidden (show T 0 = [] by rw [hT]; rfl)
  have HWD := hidden hW
  clear hE hS hc hC hCb hone hok hwd hn hT hcap hCK hsl hz hdo ht4 hba HFO hm
  go_enter Tryz.func85, Tryz.ntmps85
  clear hW
  go_wp2_with fail
  refine HCK.out.mono ?_
  rintro e w2 ⟨rfl, hb2⟩
  rw [← HWD.out] at hb2
  have HB2 := hidden hb2
  clear hb2
  go_wp2_with fail
  refine (HHI.out w2 HB2.out).mono ?_
  rintro e w3 ⟨rfl, hb3⟩
  have HB3 := hidden (below_after HB2.out hb3)
  clear hb3
  have hs3 : w.heap.size + 2 ≤ w3.heap.size := by rw [← hWs]; exact HB3.out.size
  go_wp2_with (at_make; refine wpList_make_own _ rfl _ _ 122 rfl (w.heap.size + 2) 66 i0 (.agg #[.bool false, .bool false, .int .u64 0, .int .u64 0, .int .u64 0, .int .u64 0, .int .u64 0, .int .u64 0, .int .u64 0, .int .u64 0]) 10 Tryz.underlying122 hi hz0 hz1 _ _ _ m rfl rfl rfl ?b2 ?b3 hs3 ?_)
  case b2 => rw [hz2]; omega
  case b3 => unfold maxLen; omega
  intro w4 hown4 hgrow4
  have HSK := hidden (show StkL (w4.alloc (.cells #[.slice (some ⟨w3.heap.size, 0, none⟩) 0 m] 122)) w4.heap.size (w.heap.size + 2) w3.heap.size m ((T 0).map letE) by
    rw [HT0.out]
    exact ⟨Boxed.new w4 _ _, World.ownsRow.alloc hown4 _⟩)
  have hb4 : Below (w.heap.size + 2) W w4 := (show Below (w.heap.size + 2) W w3 by rw [← hWs]; exact HB3.out).grown hgrow4 hs3 (fun j e => by cases e)
  have HB4 := hidden (hb4.alloc (by have := hgrow4.size; omega) (.cells #[.slice (some ⟨w3.heap.size, 0, none⟩) 0 m] 122))
  have hs4 : w.heap.size + 2 ≤ w4.heap.size := by have := hgrow4.size; omega
  clear hown4 hgrow4 hb4
  go_wp2
  go_loopw [22] (fun i wr => ∃ k : Nat, k ≤ n ∧ i = .int .i64 k ∧ (∃ g cp, StkL wr w4.heap.size (w.heap.size + 2) g cp ((T k).map letE)) ∧ Below (w.heap.size + 2) W wr) (fun i _ => n - (intOf i).toNat)
  case atStart => exact ⟨0, by omega, rfl, ⟨_, _, HSK.out⟩, HB4.out⟩
  case round =>
    obtain ⟨k, hk, rfl, ⟨gr, cr, hst⟩, hb⟩ := hrel
    have HST := hidden hst
    have HB := hidden hb
    clear hst hb
    by_cases hlt : k < n
    · obtain ⟨hnx, _⟩ := HNX.out k hlt
      have hTk := HTL.out k hk
      obtain ⟨r, Y, hTY, hYl, hap⟩ := applyL_next hnx (by omega)
      have HTY := hidden hTY
      obtain ⟨c0, c1, c2, c3, c4⟩ := HCE.out wr HB.out k hlt
      have hd := HDO.out wr HB.out
      have d0 := hd 0 _ rfl
      have d1 := hd 1 _ rfl
      have d2 := hd 2 _ rfl
      have d3 := hd 3 _ rfl
      have d4 := hd 4 _ rfl
      have d5 := hd 5 _ rfl
      have d6 := hd 6 _ rfl
      generalize L.getD k default = s at *
      obtain ⟨kd, sa, sb, sc, sd⟩ := s
      have hbx := (Below.refl wr.heap.size wr).alloc (Nat.le_refl _) (.cells #[.int .i64 kd, .int .u64 sa, .int .u64 sb, .int .u64 sc, .int .u64 sd] 73)
      have HAP := hidden (hap _ _ _ _ _ (StkL.below HST.out hbx))
      have hsz1 := HB.out.size
      have hlw : w.heap.size < wr.heap.size := by omega
      have HBX := hidden (below_then HB.out (by omega) hbx)
      have hYY : (Y.map letE).length ≤ 600 := by simp; omega
      have HYT := hidden (show Y.map letE ++ [letE r] = (T (k + 1)).map letE by rw [hTY]; simp)
      generalize letE r = x at *
      generalize Y.map letE = X at *
      unfold Stp.val at HAP
      clear hd hap hTY hnx hbx hTk hYl
      go_wp2_with fail
      refine HAP.out.mono ?_
      rintro e w5 ⟨rfl, hs5, hg5⟩
      have hb5 : Below (w.heap.size + 2) W w5 := HBX.out.grown hg5 (by simp; omega) (fun j e => by simp only [Option.some.injEq] at e; omega)
      have HB5 := hidden hb5
      obtain ⟨q1, q2⟩ := hs5
      have hcb := q1.cell
      have hfb := q1.frozen
      have Q1 := hidden ((q1.alloc (.cells #[.bool x.some, .bool x.null, .int .u64 (word (x.first) 0), .int .u64 (word (x.first) 1), .int .u64 (word (x.first) 2), .int .u64 (word (x.first) 3), .int .u64 (word (x.used) 0), .int .u64 (word (x.used) 1), .int .u64 (word (x.used) 2), .int .u64 (word (x.used) 3)] 66)).alloc (.cells #[.bool x.some, .bool x.null, .int .u64 (word (x.first) 0), .int .u64 (word (x.first) 1), .int .u64 (word (x.first) 2), .int .u64 (word (x.first) 3), .int .u64 (word (x.used) 0), .int .u64 (word (x.used) 1), .int .u64 (word (x.used) 2), .int .u64 (word (x.used) 3)] 66))
      have Q2 := hidden (World.ownsRow.alloc (World.ownsRow.alloc q2 (.cells #[.bool x.some, .bool x.null, .int .u64 (word (x.first) 0), .int .u64 (word (x.first) 1), .int .u64 (word (x.first) 2), .int .u64 (word (x.first) 3), .int .u64 (word (x.used) 0), .int .u64 (word (x.used) 1), .int .u64 (word (x.used) 2), .int .u64 (word (x.used) 3)] 66)) (.cells #[.bool x.some, .bool x.null, .int .u64 (word (x.first) 0), .int .u64 (word (x.first) 1), .int .u64 (word (x.first) 2), .int .u64 (word (x.first) 3), .int .u64 (word (x.used) 0), .int .u64 (word (x.used) 1), .int .u64 (word (x.used) 2), .int .u64 (word (x.used) 3)] 66))
      have hsz5 := HB5.out.size
      have hlb := q1.lt
      have hg5b := (q2.lt gr rfl).1
      have hg5l := (q2.lt gr rfl).2
      have HBA5 := hidden ((HB5.out.alloc (by omega) (.cells #[.bool x.some, .bool x.null, .int .u64 (word (x.first) 0), .int .u64 (word (x.first) 1), .int .u64 (word (x.first) 2), .int .u64 (word (x.first) 3), .int .u64 (word (x.used) 0), .int .u64 (word (x.used) 1), .int .u64 (word (x.used) 2), .int .u64 (word (x.used) 3)] 66)).alloc (by simp; omega) (.cells #[.bool x.some, .bool x.null, .int .u64 (word (x.first) 0), .int .u64 (word (x.first) 1), .int .u64 (word (x.first) 2), .int .u64 (word (x.first) 3), .int .u64 (word (x.used) 0), .int .u64 (word (x.used) 1), .int .u64 (word (x.used) 2), .int .u64 (word (x.used) 3)] 66))
      obtain ⟨nx, hnx⟩ : ∃ nx, nx = X.length := ⟨_, rfl⟩
      have HNXX := hidden hnx
      rw [← hnx] at hcb Q1 Q2 hYY
      clear hb5 q1 q2 hg5 hnx
      unfold letV
      go_wp2_with (at_builtin; refine app_elem rfl _ _ rfl Tryz.underlying122 infoL rfl (by decide) (by decide) (base := w.heap.size + 2) (n := nx) (xs := X.flatMap letC) (ys := letC x) rfl Q2.out rfl (heap_alloc2_new w5 _ _) rfl (fun u hu => by simp [letC] at hu; rcases hu with h | h | h | h | h | h | h | h | h | h <;> subst h <;> rfl) (by omega) (by simp; omega) ?_; intro g6 c6 w6 hown6 hgrow6; have HP := hidden (StkV.pushA Q1.out Q2.out (by decide) hgrow6 hown6); have hcb6 := (Q1.out.kept hgrow6 (Q1.out.not_row (by decide) Q2.out)).cell; have hfb6 := (Q1.out.kept hgrow6 (Q1.out.not_row (by decide) Q2.out)).frozen; have HB6 := hidden ((HBA5.out.grown hgrow6 (by simp; omega) (fun j e => by simp only [Option.some.injEq] at e; omega)).setCell (p := ⟨w4.heap.size, 0, none⟩) (by simp only; omega) (.slice (some ⟨g6, 0, none⟩) (nx + 1) c6)); clear hown6 hgrow6)
      go_wp2
      have hlt' := hlt
      go_roundw
      case rel =>
        refine ⟨k + 1, by omega, by go_num, ⟨g6, c6, ?_⟩, HB6.out⟩
        rw [← HYT.out]
        unfold StkL
        rw [List.length_append, List.flatMap_append, ← HNXX.out]
        have h := HP.out
        simpa using h
      case measure => simp [intOf]; omega
    · obtain rfl : k = n := by omega
      have hst := HST.out
      rw [HONE.out] at hst
      have HTA := hidden (takeL_calls (X := []) hst (by simp))
      have hsB := hst.1.lt
      clear hst
      go_wp2_with fail
      refine HTA.out.mono ?_
      rintro e w5 ⟨rfl, hs5, hg5⟩
      have hsz := HB.out.size
      have hb5 := (HB.out.grown hg5 (by omega) (fun j e => by simp only [Option.some.injEq] at e; omega))
      have hla := HT4.out w5 hb5
      have HLA := hidden (show w5.heap[w.heap.size + 1]? = some (.cells #[.bool false, .bool false, .int .u64 (word (fNone) 0), .int .u64 (word (fNone) 1), .int .u64 (word (fNone) 2), .int .u64 (word (fNone) 3), .int .u64 (word (fNone) 0), .int .u64 (word (fNone) 1), .int .u64 (word (fNone) 2), .int .u64 (word (fNone) 3)] 66 (0, 0)) from hla)
      clear hla
      have HB5 := hidden ((HBA.out.mono (Nat.le_refl _)).trans (hb5.mono (by omega)))
      clear hs5 hg5 hb5
      generalize hx : letE (treeE L) = x
      have HX := hidden hx
      clear hx
      unfold letV
      dsimp only
      go_wp2_with (refine store_row (B := w.heap.size + 1) (cs := #[.bool x.some, .bool x.null, .int .u64 (word (x.first) 0), .int .u64 (word (x.first) 1), .int .u64 (word (x.first) 2), .int .u64 (word (x.first) 3), .int .u64 (word (x.used) 0), .int .u64 (word (x.used) 1), .int .u64 (word (x.used) 2), .int .u64 (word (x.used) 3)]) (old := #[.bool false, .bool false, .int .u64 (word (fNone) 0), .int .u64 (word (fNone) 1), .int .u64 (word (fNone) 2), .int .u64 (word (fNone) 3), .int .u64 (word (fNone) 0), .int .u64 (word (fNone) 1), .int .u64 (word (fNone) 2), .int .u64 (word (fNone) 3)]) (t := 66) rfl (ty := 66) (x := .tmp 4) (y := .tmp 36) rfl rfl rfl HLA.out 10 (by kernel_rfl) rfl rfl (by kernel_rfl) ?_; intro w6 hw6 hg6; have HL6 := hidden hw6; have HG6 := hidden hg6; clear hw6 hg6)
      exact ret_let_tmp (l := x) (v := .bool true) Tryz.results85 rfl rfl rfl HL6.out ⟨by rw [HX.out], HB5.out.grown HG6.out (by have := HB5.out.size; omega) (fun j e => by simp only [Option.some.injEq] at e; omega)⟩
end Go.Proofs.YthkboclooplpeaaGreatDoor
