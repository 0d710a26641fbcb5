/- FaApR, FaNxR, put together. -/
import Derived.Test.YthkboclooplpeaaGreatDoorRf27
/- apply at reach: the operation for a step, on what waits and on the net. -/
namespace Go.Proofs.YthkboclooplpeaaGreatDoor
open Go.RowKit Go.Lib Go.Joins
attribute [local go_sem] evalR_tmp evalR_const evalR_global evalR_func
/-- the world behind apply's first allocs -/
def apR (NB PB : Nat) (w : World) (s : Stp) : World := ((w.alloc (.cells #[.int .i64 s.k, .int .u64 s.a, .int .u64 s.b, .int .u64 s.c, .int .u64 s.d] 73)).alloc (.cells #[.func (.func 99) #[.pointer (some ⟨NB, 0, none⟩)] #[], .func (.func 100) #[] #[], .func (.func 101) #[.pointer (some ⟨NB, 0, none⟩)] #[], .func (.func 102) #[] #[], .func (.func 103) #[] #[.pointer (some ⟨PB, 0, none⟩)], .func (.func 104) #[.pointer (some ⟨NB, 0, none⟩)] #[], .func (.func 105) #[] #[]] 118)).alloc (.cells #[.bool false, .int .u64 0, .int .u64 0, .int .u64 0, .int .u64 0, .int .u64 0, .int .u64 0, .int .u64 0, .int .u64 0] 83)
/-- apply's boxes, behind whatever take and an operation have done -/
theorem boxesR {w w2 : World} {B NB PB base : Nat} {s : Stp} (hB : B < w.heap.size) (hNB : NB < w.heap.size) (hg : Mv (fun k => k = B ∨ k = NB) base (apR NB PB w s) w2) :
    w2.cell? ⟨w.heap.size, 0, none⟩ = some (.int .i64 s.k) ∧ (∀ j v, (#[.func (.func 99) #[.pointer (some ⟨NB, 0, none⟩)] #[], .func (.func 100) #[] #[], .func (.func 101) #[.pointer (some ⟨NB, 0, none⟩)] #[], .func (.func 102) #[] #[], .func (.func 103) #[] #[.pointer (some ⟨PB, 0, none⟩)], .func (.func 104) #[.pointer (some ⟨NB, 0, none⟩)] #[], .func (.func 105) #[] #[]] : Array Value)[j]? = some v → w2.cell? ⟨w.heap.size + 1, j, none⟩ = some v) ∧ RchAt w2 (w.heap.size + 2) ⟨false, fNone, fNone⟩ := by
  have hs1 : (w.alloc (.cells #[.int .i64 s.k, .int .u64 s.a, .int .u64 s.b, .int .u64 s.c, .int .u64 s.d] 73)).heap.size = w.heap.size + 1 := by simp
  have h1 := hg.at (b := w.heap.size) ((heap_alloc_old _ _ (by simp; omega)).trans (heap_alloc2_old w _ _)) (by rintro (h | h) <;> omega) (by decide)
  have h2 := hg.at (b := w.heap.size + 1) ((heap_alloc_old _ _ (by simp)).trans (heap_alloc2_new w _ _)) (by rintro (h | h) <;> omega) (by decide)
  have h30 := heap_alloc2_new (w.alloc (.cells #[.int .i64 s.k, .int .u64 s.a, .int .u64 s.b, .int .u64 s.c, .int .u64 s.d] 73)) (.cells #[.func (.func 99) #[.pointer (some ⟨NB, 0, none⟩)] #[], .func (.func 100) #[] #[], .func (.func 101) #[.pointer (some ⟨NB, 0, none⟩)] #[], .func (.func 102) #[] #[], .func (.func 103) #[] #[.pointer (some ⟨PB, 0, none⟩)], .func (.func 104) #[.pointer (some ⟨NB, 0, none⟩)] #[], .func (.func 105) #[] #[]] 118) (.cells #[.bool false, .int .u64 0, .int .u64 0, .int .u64 0, .int .u64 0, .int .u64 0, .int .u64 0, .int .u64 0, .int .u64 0] 83)
  rw [hs1] at h30
  have h3 := hg.at (b := w.heap.size + 2) h30 (by rintro (h | h) <;> omega) (by decide)
  refine ⟨cell_of_row w2 _ 0 _ _ _ h1, fun j v hj => (cell_of_row w2 _ j _ _ _ h2).trans hj, ?_⟩
  unfold RchAt
  simp only [word_zero]
  exact h3
set_option maxHeartbeats 8000000 in
set_option maxRecDepth 100000 in
theorem applyR_set {w : World} {B NB PB base b0 g cap : Nat} {S : List (Nat → Bool)} {E : Nat → Nat → Bool} {s : Stp} {X : List Rch} {f : Nat → Bool} (ha : s.a = word f 0) (hb_ : s.b = word f 1) (hc : s.c = word f 2) (hd : s.d = word f 3) (hk : s.k = 1) (h : StkR w B b0 g cap X) (hn : NEnv NB PB base S E w) (hb : base ≤ B) (_ : X.length ≤ 1000) (hlen : S.length < 256) (hE : ∀ q, q < 256 → E S.length q = false) :
    Calls Tryz.prog 120 #[s.val, .agg #[.func (.func 99) #[.pointer (some ⟨NB, 0, none⟩)] #[], .func (.func 100) #[] #[], .func (.func 101) #[.pointer (some ⟨NB, 0, none⟩)] #[], .func (.func 102) #[] #[], .func (.func 103) #[] #[.pointer (some ⟨PB, 0, none⟩)], .func (.func 104) #[.pointer (some ⟨NB, 0, none⟩)] #[], .func (.func 105) #[] #[]], .func (.func 119) #[] #[.pointer (some ⟨B, 0, none⟩)]] w fun e w' => e = .returned (rchV ⟨false, fOne S.length, fOne S.length⟩) ∧ StkR w' B b0 g cap X ∧ NEnv NB PB base (S ++ [f]) E w' ∧ Mv (fun k => k = B ∨ k = NB) base w w' := by
  have hB := StkA.lt h
  have hNB := hn.net.lt
  obtain ⟨_, hg, _⟩ := StkA.row h
  have hap := stk_net h hn
  obtain ⟨k, a, b, c, d⟩ := s
  simp only at hk ha hb_ hc hd
  subst hk ha hb_ hc hd
  have HG := hidden (show Mv (fun k => k = B ∨ k = NB) base w (apR NB PB w ⟨1, word f 0, word f 1, word f 2, word f 3⟩) from (Mv.alloc _).trans ((Mv.alloc _).trans (Mv.alloc _)))
  have HS := hidden (show StkR (apR NB PB w ⟨1, word f 0, word f 1, word f 2, word f 3⟩) B b0 g cap X from ((h.alloc _).alloc _).alloc _)
  have HN := hidden (show NEnv NB PB base S E (apR NB PB w ⟨1, word f 0, word f 1, word f 2, word f 3⟩) from ((hn.alloc _).alloc _).alloc _)
  have HBX := hidden (fun w2 => boxesR (w := w) (w2 := w2) (B := B) (NB := NB) (PB := PB) (base := base) (s := ⟨1, word f 0, word f 1, word f 2, word f 3⟩) hB hNB)
  have HNE := hidden (show B ≠ w.heap.size + 2 ∧ g ≠ w.heap.size + 2 ∧ base ≤ w.heap.size + 2 from by have := hn.low; omega)
  have HAP := hidden hap
  have HB := hidden hb
  have HOV := hidden hn.over
  clear h hg hn hap hb
  unfold apR at HG HS HBX HN
  unfold Stp.val
  have HCL := hidden (set_calls f HN.out.net HN.out.low hlen hE)
  go_enter Tryz.func120, Tryz.ntmps120
  go_wp2_with fail
  refine HCL.out.mono ?_
  rintro e w1 ⟨rfl, hN1, hm1⟩
  have hmv : Mv (fun k => k = B ∨ k = NB) base _ w1 := hm1.mono (fun k h => .inr h)
  have HSN := hidden (HS.out.mv hm1 HAP.out.1 HAP.out.2.1)
  have HNN := hidden (HN.out.to hm1 (fun k h => by rw [h]; exact HOV.out.2) HN.out.ne hN1 (by rw [List.length_append]; simp only [List.length_cons, List.length_nil]; omega))
  have HGN := hidden (HG.out.trans hmv)
  have hla := (HBX.out w1 hmv).2.2
  obtain ⟨c0, c1, c2, c3, c4, c5, c6, c7, c8⟩ := hla.cells
  have f0 := hla.frozen 0
  have f1 := hla.frozen 1
  have f2 := hla.frozen 2
  have f3 := hla.frozen 3
  have f4 := hla.frozen 4
  have f5 := hla.frozen 5
  have f6 := hla.frozen 6
  have f7 := hla.frozen 7
  have f8 := hla.frozen 8
  have HLA := hidden hla
  clear hla
  clear hN1 hm1 hmv
  unfold rchV
  go_wp2
  exact ret_rch (l := ⟨false, fOne S.length, fOne S.length⟩) Tryz.results120 rfl rfl (RchAt.stored HLA.out ⟨false, fOne S.length, fOne S.length⟩) ⟨rfl, StkA.grown HSN.out (rch_gb _ ⟨false, fOne S.length, fOne S.length⟩) HNE.out.1 HNE.out.2.1, HNN.out.other HLA.out (by decide) (by decide) (by decide) HNE.out.2.2 (rch_gb _ ⟨false, fOne S.length, fOne S.length⟩), HGN.out.over (b := w.heap.size + 1 + 1) (by omega) (rch_gb _ ⟨false, fOne S.length, fOne S.length⟩)⟩
set_option maxHeartbeats 8000000 in
set_option maxRecDepth 100000 in
theorem applyR_emp {w : World} {B NB PB base b0 g cap : Nat} {S : List (Nat → Bool)} {E : Nat → Nat → Bool} {s : Stp} {X : List Rch} (hk : s.k = 2) (h : StkR w B b0 g cap X) (hn : NEnv NB PB base S E w) (hb : base ≤ B) (_ : X.length ≤ 1000) :
    Calls Tryz.prog 120 #[s.val, .agg #[.func (.func 99) #[.pointer (some ⟨NB, 0, none⟩)] #[], .func (.func 100) #[] #[], .func (.func 101) #[.pointer (some ⟨NB, 0, none⟩)] #[], .func (.func 102) #[] #[], .func (.func 103) #[] #[.pointer (some ⟨PB, 0, none⟩)], .func (.func 104) #[.pointer (some ⟨NB, 0, none⟩)] #[], .func (.func 105) #[] #[]], .func (.func 119) #[] #[.pointer (some ⟨B, 0, none⟩)]] w fun e w' => e = .returned (rchV ⟨true, fNone, fNone⟩) ∧ StkR w' B b0 g cap X ∧ NEnv NB PB base S E w' ∧ Mv (fun k => k = B ∨ k = NB) base w w' := by
  have hB := StkA.lt h
  have hNB := hn.net.lt
  obtain ⟨_, hg, _⟩ := StkA.row h
  have hap := stk_net h hn
  obtain ⟨k, a, b, c, d⟩ := s
  simp only at hk
  subst hk
  have HG := hidden (show Mv (fun k => k = B ∨ k = NB) base w (apR NB PB w ⟨2, a, b, c, d⟩) from (Mv.alloc _).trans ((Mv.alloc _).trans (Mv.alloc _)))
  have HS := hidden (show StkR (apR NB PB w ⟨2, a, b, c, d⟩) B b0 g cap X from ((h.alloc _).alloc _).alloc _)
  have HN := hidden (show NEnv NB PB base S E (apR NB PB w ⟨2, a, b, c, d⟩) from ((hn.alloc _).alloc _).alloc _)
  have HBX := hidden (fun w2 => boxesR (w := w) (w2 := w2) (B := B) (NB := NB) (PB := PB) (base := base) (s := ⟨2, a, b, c, d⟩) hB hNB)
  have HNE := hidden (show B ≠ w.heap.size + 2 ∧ g ≠ w.heap.size + 2 ∧ base ≤ w.heap.size + 2 from by have := hn.low; omega)
  have HAP := hidden hap
  have HB := hidden hb
  have HOV := hidden hn.over
  clear h hg hn hap hb
  unfold apR at HG HS HBX HN
  unfold Stp.val
  go_enter Tryz.func120, Tryz.ntmps120
  go_wp2_with fail
  refine (rchEmp_calls _).mono ?_
  rintro e w1 ⟨rfl, hb1⟩
  have hmv : Mv (fun k => k = B ∨ k = NB) base _ w1 := .of_below hb1
  have HSN := hidden (HS.out.below hb1)
  have HNN := hidden (HN.out.below hb1)
  have HGN := hidden (HG.out.trans hmv)
  have hla := (HBX.out w1 hmv).2.2
  obtain ⟨c0, c1, c2, c3, c4, c5, c6, c7, c8⟩ := hla.cells
  have f0 := hla.frozen 0
  have f1 := hla.frozen 1
  have f2 := hla.frozen 2
  have f3 := hla.frozen 3
  have f4 := hla.frozen 4
  have f5 := hla.frozen 5
  have f6 := hla.frozen 6
  have f7 := hla.frozen 7
  have f8 := hla.frozen 8
  have HLA := hidden hla
  clear hla
  clear hb1 hmv
  unfold rchV
  go_wp2
  exact ret_rch (l := ⟨true, fNone, fNone⟩) Tryz.results120 rfl rfl (RchAt.stored HLA.out ⟨true, fNone, fNone⟩) ⟨rfl, StkA.grown HSN.out (rch_gb _ ⟨true, fNone, fNone⟩) HNE.out.1 HNE.out.2.1, HNN.out.other HLA.out (by decide) (by decide) (by decide) HNE.out.2.2 (rch_gb _ ⟨true, fNone, fNone⟩), HGN.out.over (b := w.heap.size + 1 + 1) (by omega) (rch_gb _ ⟨true, fNone, fNone⟩)⟩
set_option maxHeartbeats 8000000 in
set_option maxRecDepth 100000 in
theorem applyR_star {w : World} {B NB PB base b0 g cap : Nat} {S : List (Nat → Bool)} {E : Nat → Nat → Bool} {s : Stp} {X : List Rch} {x : Rch} (hk : s.k = 5) (h : StkR w B b0 g cap (X ++ [x])) (hn : NEnv NB PB base S E w) (hb : base ≤ B) (hX : X.length ≤ 1000) (hF : ∀ p, p < 256 → x.last p = true → p < S.length) :
    Calls Tryz.prog 120 #[s.val, .agg #[.func (.func 99) #[.pointer (some ⟨NB, 0, none⟩)] #[], .func (.func 100) #[] #[], .func (.func 101) #[.pointer (some ⟨NB, 0, none⟩)] #[], .func (.func 102) #[] #[], .func (.func 103) #[] #[.pointer (some ⟨PB, 0, none⟩)], .func (.func 104) #[.pointer (some ⟨NB, 0, none⟩)] #[], .func (.func 105) #[] #[]], .func (.func 119) #[] #[.pointer (some ⟨B, 0, none⟩)]] w fun e w' => e = .returned (rchV ⟨true, x.first, x.last⟩) ∧ StkR w' B b0 g cap X ∧ NEnv NB PB base S (fun p q => E p q || (x.last p && x.first q)) w' ∧ Mv (fun k => k = B ∨ k = NB) base w w' := by
  have hB := StkA.lt h
  have hNB := hn.net.lt
  obtain ⟨_, hg, _⟩ := StkA.row h
  have hap := stk_net h hn
  obtain ⟨k, a, b, c, d⟩ := s
  simp only at hk
  subst hk
  have HG := hidden (show Mv (fun k => k = B ∨ k = NB) base w (apR NB PB w ⟨5, a, b, c, d⟩) from (Mv.alloc _).trans ((Mv.alloc _).trans (Mv.alloc _)))
  have HS := hidden (show StkR (apR NB PB w ⟨5, a, b, c, d⟩) B b0 g cap (X ++ [x]) from ((h.alloc _).alloc _).alloc _)
  have HN := hidden (show NEnv NB PB base S E (apR NB PB w ⟨5, a, b, c, d⟩) from ((hn.alloc _).alloc _).alloc _)
  have HBX := hidden (fun w2 => boxesR (w := w) (w2 := w2) (B := B) (NB := NB) (PB := PB) (base := base) (s := ⟨5, a, b, c, d⟩) hB hNB)
  have HNE := hidden (show B ≠ w.heap.size + 2 ∧ g ≠ w.heap.size + 2 ∧ base ≤ w.heap.size + 2 from by have := hn.low; omega)
  have HAP := hidden hap
  have HB := hidden hb
  have HOV := hidden hn.over
  clear h hg hn hap hb
  unfold apR at HG HS HBX HN
  unfold Stp.val
  have HTK_ := hidden (takeR_calls (X := X) (x := x) (StkR.drew HS.out) hX)
  go_enter Tryz.func120, Tryz.ntmps120
  go_wp2
  go_region_with (first
    | (go_at_call 119; refine HTK_.out.mono ?_; rintro e w2 ⟨rfl, hs2, hg2⟩; have HS3 := hidden hs2; have hm2 : Mv (fun k => k = B ∨ k = NB) base _ w2 := (Mv.drew.trans (.grown hg2 (.inl (.inl rfl)))); have HN3 := hidden (HN.out.drew.took (StkR.drew HS.out) HB.out hg2); have HG3 := hidden hm2; have d4 := (HBX.out w2 hm2).2.1 4 _ rfl; clear hs2 hg2 hm2)
    | (go_at_call 103; refine (starN_calls x HN3.out.net HN3.out.tab HN3.out.len hF (cell_of_row _ PB 0 _ _ _ HN3.out.ptr)).mono ?_; rintro e w3 ⟨rfl, hN1, hm1⟩; have hmv : Mv (fun k => k = B ∨ k = NB) base _ w3 := hm1.mono (fun k h => h.elim); have HSN := hidden (HS3.out.mv hm1 (fun h => h) (fun h => h)); have HNN := hidden (HN3.out.to hm1 (fun k h => h.elim) (fun h => h) hN1 HN3.out.len); have HGN := hidden ((HG.out.trans HG3.out).trans hmv); have hla := (HBX.out w3 (HG3.out.trans hmv)).2.2; obtain ⟨c0, c1, c2, c3, c4, c5, c6, c7, c8⟩ := hla.cells; have f0 := hla.frozen 0; have f1 := hla.frozen 1; have f2 := hla.frozen 2; have f3 := hla.frozen 3; have f4 := hla.frozen 4; have f5 := hla.frozen 5; have f6 := hla.frozen 6; have f7 := hla.frozen 7; have f8 := hla.frozen 8; have HLA := hidden hla; clear hla; clear hN1 hm1 hmv; unfold rchV))
  all_goals
    go_wp2
    exact ret_rch (l := ⟨true, x.first, x.last⟩) Tryz.results120 rfl rfl (RchAt.stored HLA.out ⟨true, x.first, x.last⟩) ⟨rfl, StkA.grown HSN.out (rch_gb _ ⟨true, x.first, x.last⟩) HNE.out.1 HNE.out.2.1, HNN.out.other HLA.out (by decide) (by decide) (by decide) HNE.out.2.2 (rch_gb _ ⟨true, x.first, x.last⟩), HGN.out.over (b := w.heap.size + 1 + 1) (by omega) (rch_gb _ ⟨true, x.first, x.last⟩)⟩
set_option maxHeartbeats 8000000 in
set_option maxRecDepth 100000 in
theorem applyR_plus {w : World} {B NB PB base b0 g cap : Nat} {S : List (Nat → Bool)} {E : Nat → Nat → Bool} {s : Stp} {X : List Rch} {x : Rch} (hk : s.k = 6) (h : StkR w B b0 g cap (X ++ [x])) (hn : NEnv NB PB base S E w) (hb : base ≤ B) (hX : X.length ≤ 1000) (hF : ∀ p, p < 256 → x.last p = true → p < S.length) :
    Calls Tryz.prog 120 #[s.val, .agg #[.func (.func 99) #[.pointer (some ⟨NB, 0, none⟩)] #[], .func (.func 100) #[] #[], .func (.func 101) #[.pointer (some ⟨NB, 0, none⟩)] #[], .func (.func 102) #[] #[], .func (.func 103) #[] #[.pointer (some ⟨PB, 0, none⟩)], .func (.func 104) #[.pointer (some ⟨NB, 0, none⟩)] #[], .func (.func 105) #[] #[]], .func (.func 119) #[] #[.pointer (some ⟨B, 0, none⟩)]] w fun e w' => e = .returned (rchV x) ∧ StkR w' B b0 g cap X ∧ NEnv NB PB base S (fun p q => E p q || (x.last p && x.first q)) w' ∧ Mv (fun k => k = B ∨ k = NB) base w w' := by
  have hB := StkA.lt h
  have hNB := hn.net.lt
  obtain ⟨_, hg, _⟩ := StkA.row h
  have hap := stk_net h hn
  obtain ⟨k, a, b, c, d⟩ := s
  simp only at hk
  subst hk
  have HG := hidden (show Mv (fun k => k = B ∨ k = NB) base w (apR NB PB w ⟨6, a, b, c, d⟩) from (Mv.alloc _).trans ((Mv.alloc _).trans (Mv.alloc _)))
  have HS := hidden (show StkR (apR NB PB w ⟨6, a, b, c, d⟩) B b0 g cap (X ++ [x]) from ((h.alloc _).alloc _).alloc _)
  have HN := hidden (show NEnv NB PB base S E (apR NB PB w ⟨6, a, b, c, d⟩) from ((hn.alloc _).alloc _).alloc _)
  have HBX := hidden (fun w2 => boxesR (w := w) (w2 := w2) (B := B) (NB := NB) (PB := PB) (base := base) (s := ⟨6, a, b, c, d⟩) hB hNB)
  have HNE := hidden (show B ≠ w.heap.size + 2 ∧ g ≠ w.heap.size + 2 ∧ base ≤ w.heap.size + 2 from by have := hn.low; omega)
  have HAP := hidden hap
  have HB := hidden hb
  have HOV := hidden hn.over
  clear h hg hn hap hb
  unfold apR at HG HS HBX HN
  unfold Stp.val
  have HTK_ := hidden (takeR_calls (X := X) (x := x) (StkR.drew HS.out) hX)
  go_enter Tryz.func120, Tryz.ntmps120
  go_wp2
  go_region_with (first
    | (go_at_call 119; refine HTK_.out.mono ?_; rintro e w2 ⟨rfl, hs2, hg2⟩; have HS3 := hidden hs2; have hm2 : Mv (fun k => k = B ∨ k = NB) base _ w2 := (Mv.drew.trans (.grown hg2 (.inl (.inl rfl)))); have HN3 := hidden (HN.out.drew.took (StkR.drew HS.out) HB.out hg2); have HG3 := hidden hm2; have d5 := (HBX.out w2 hm2).2.1 5 _ rfl; clear hs2 hg2 hm2)
    | (go_at_call 104; refine (plus_calls x HN3.out.net HN3.out.tab HN3.out.len hF).mono ?_; rintro e w3 ⟨rfl, hN1, hm1⟩; have hmv : Mv (fun k => k = B ∨ k = NB) base _ w3 := hm1.mono (fun k h => h.elim); have HSN := hidden (HS3.out.mv hm1 (fun h => h) (fun h => h)); have HNN := hidden (HN3.out.to hm1 (fun k h => h.elim) (fun h => h) hN1 HN3.out.len); have HGN := hidden ((HG.out.trans HG3.out).trans hmv); have hla := (HBX.out w3 (HG3.out.trans hmv)).2.2; obtain ⟨c0, c1, c2, c3, c4, c5, c6, c7, c8⟩ := hla.cells; have f0 := hla.frozen 0; have f1 := hla.frozen 1; have f2 := hla.frozen 2; have f3 := hla.frozen 3; have f4 := hla.frozen 4; have f5 := hla.frozen 5; have f6 := hla.frozen 6; have f7 := hla.frozen 7; have f8 := hla.frozen 8; have HLA := hidden hla; clear hla; clear hN1 hm1 hmv; unfold rchV))
  all_goals
    go_wp2
    exact ret_rch (l := x) Tryz.results120 rfl rfl (RchAt.stored HLA.out x) ⟨rfl, StkA.grown HSN.out (rch_gb _ x) HNE.out.1 HNE.out.2.1, HNN.out.other HLA.out (by decide) (by decide) (by decide) HNE.out.2.2 (rch_gb _ x), HGN.out.over (b := w.heap.size + 1 + 1) (by omega) (rch_gb _ x)⟩
set_option maxHeartbeats 8000000 in
set_option maxRecDepth 100000 in
theorem applyR_opt {w : World} {B NB PB base b0 g cap : Nat} {S : List (Nat → Bool)} {E : Nat → Nat → Bool} {s : Stp} {X : List Rch} {x : Rch} (hk : s.k = 7) (h : StkR w B b0 g cap (X ++ [x])) (hn : NEnv NB PB base S E w) (hb : base ≤ B) (hX : X.length ≤ 1000) :
    Calls Tryz.prog 120 #[s.val, .agg #[.func (.func 99) #[.pointer (some ⟨NB, 0, none⟩)] #[], .func (.func 100) #[] #[], .func (.func 101) #[.pointer (some ⟨NB, 0, none⟩)] #[], .func (.func 102) #[] #[], .func (.func 103) #[] #[.pointer (some ⟨PB, 0, none⟩)], .func (.func 104) #[.pointer (some ⟨NB, 0, none⟩)] #[], .func (.func 105) #[] #[]], .func (.func 119) #[] #[.pointer (some ⟨B, 0, none⟩)]] w fun e w' => e = .returned (rchV ⟨true, x.first, x.last⟩) ∧ StkR w' B b0 g cap X ∧ NEnv NB PB base S E w' ∧ Mv (fun k => k = B ∨ k = NB) base w w' := by
  have hB := StkA.lt h
  have hNB := hn.net.lt
  obtain ⟨_, hg, _⟩ := StkA.row h
  have hap := stk_net h hn
  obtain ⟨k, a, b, c, d⟩ := s
  simp only at hk
  subst hk
  have HG := hidden (show Mv (fun k => k = B ∨ k = NB) base w (apR NB PB w ⟨7, a, b, c, d⟩) from (Mv.alloc _).trans ((Mv.alloc _).trans (Mv.alloc _)))
  have HS := hidden (show StkR (apR NB PB w ⟨7, a, b, c, d⟩) B b0 g cap (X ++ [x]) from ((h.alloc _).alloc _).alloc _)
  have HN := hidden (show NEnv NB PB base S E (apR NB PB w ⟨7, a, b, c, d⟩) from ((hn.alloc _).alloc _).alloc _)
  have HBX := hidden (fun w2 => boxesR (w := w) (w2 := w2) (B := B) (NB := NB) (PB := PB) (base := base) (s := ⟨7, a, b, c, d⟩) hB hNB)
  have HNE := hidden (show B ≠ w.heap.size + 2 ∧ g ≠ w.heap.size + 2 ∧ base ≤ w.heap.size + 2 from by have := hn.low; omega)
  have HAP := hidden hap
  have HB := hidden hb
  have HOV := hidden hn.over
  clear h hg hn hap hb
  unfold apR at HG HS HBX HN
  unfold Stp.val
  have HTK_ := hidden (takeR_calls (X := X) (x := x) (StkR.drew HS.out) hX)
  go_enter Tryz.func120, Tryz.ntmps120
  go_wp2
  go_region_with (first
    | (go_at_call 119; refine HTK_.out.mono ?_; rintro e w2 ⟨rfl, hs2, hg2⟩; have HS3 := hidden hs2; have hm2 : Mv (fun k => k = B ∨ k = NB) base _ w2 := (Mv.drew.trans (.grown hg2 (.inl (.inl rfl)))); have HN3 := hidden (HN.out.drew.took (StkR.drew HS.out) HB.out hg2); have HG3 := hidden hm2; have d6 := (HBX.out w2 hm2).2.1 6 _ rfl; clear hs2 hg2 hm2)
    | (go_at_call 105; refine (rchEmpty_calls x _).mono ?_; rintro e w3 ⟨rfl, hb1⟩; have hmv : Mv (fun k => k = B ∨ k = NB) base _ w3 := .of_below hb1; have HSN := hidden (HS3.out.below hb1); have HNN := hidden (HN3.out.below hb1); have HGN := hidden ((HG.out.trans HG3.out).trans hmv); have hla := (HBX.out w3 (HG3.out.trans hmv)).2.2; obtain ⟨c0, c1, c2, c3, c4, c5, c6, c7, c8⟩ := hla.cells; have f0 := hla.frozen 0; have f1 := hla.frozen 1; have f2 := hla.frozen 2; have f3 := hla.frozen 3; have f4 := hla.frozen 4; have f5 := hla.frozen 5; have f6 := hla.frozen 6; have f7 := hla.frozen 7; have f8 := hla.frozen 8; have HLA := hidden hla; clear hla; clear hb1 hmv; unfold rchV))
  all_goals
    go_wp2
    exact ret_rch (l := ⟨true, x.first, x.last⟩) Tryz.results120 rfl rfl (RchAt.stored HLA.out ⟨true, x.first, x.last⟩) ⟨rfl, StkA.grown HSN.out (rch_gb _ ⟨true, x.first, x.last⟩) HNE.out.1 HNE.out.2.1, HNN.out.other HLA.out (by decide) (by decide) (by decide) HNE.out.2.2 (rch_gb _ ⟨true, x.first, x.last⟩), HGN.out.over (b := w.heap.size + 1 + 1) (by omega) (rch_gb _ ⟨true, x.first, x.last⟩)⟩
set_option maxHeartbeats 8000000 in
set_option maxRecDepth 100000 in
theorem applyR_cat {w : World} {B NB PB base b0 g cap : Nat} {S : List (Nat → Bool)} {E : Nat → Nat → Bool} {s : Stp} {X : List Rch} {x y : Rch} (hk : s.k = 3) (h : StkR w B b0 g cap (X ++ [x, y])) (hn : NEnv NB PB base S E w) (hb : base ≤ B) (hX : X.length ≤ 999) (hF : ∀ p, p < 256 → x.last p = true → p < S.length) :
    Calls Tryz.prog 120 #[s.val, .agg #[.func (.func 99) #[.pointer (some ⟨NB, 0, none⟩)] #[], .func (.func 100) #[] #[], .func (.func 101) #[.pointer (some ⟨NB, 0, none⟩)] #[], .func (.func 102) #[] #[], .func (.func 103) #[] #[.pointer (some ⟨PB, 0, none⟩)], .func (.func 104) #[.pointer (some ⟨NB, 0, none⟩)] #[], .func (.func 105) #[] #[]], .func (.func 119) #[] #[.pointer (some ⟨B, 0, none⟩)]] w fun e w' => e = .returned (rchV (catR x y)) ∧ StkR w' B b0 g cap X ∧ NEnv NB PB base S (fun p q => E p q || (x.last p && y.first q)) w' ∧ Mv (fun k => k = B ∨ k = NB) base w w' := by
  have hB := StkA.lt h
  have hNB := hn.net.lt
  obtain ⟨_, hg, _⟩ := StkA.row h
  have hap := stk_net h hn
  obtain ⟨k, a, b, c, d⟩ := s
  simp only at hk
  subst hk
  have HG := hidden (show Mv (fun k => k = B ∨ k = NB) base w (apR NB PB w ⟨3, a, b, c, d⟩) from (Mv.alloc _).trans ((Mv.alloc _).trans (Mv.alloc _)))
  have HS := hidden (show StkR (apR NB PB w ⟨3, a, b, c, d⟩) B b0 g cap (X ++ [x, y]) from ((h.alloc _).alloc _).alloc _)
  have HN := hidden (show NEnv NB PB base S E (apR NB PB w ⟨3, a, b, c, d⟩) from ((hn.alloc _).alloc _).alloc _)
  have HBX := hidden (fun w2 => boxesR (w := w) (w2 := w2) (B := B) (NB := NB) (PB := PB) (base := base) (s := ⟨3, a, b, c, d⟩) hB hNB)
  have HNE := hidden (show B ≠ w.heap.size + 2 ∧ g ≠ w.heap.size + 2 ∧ base ≤ w.heap.size + 2 from by have := hn.low; omega)
  have HAP := hidden hap
  have HB := hidden hb
  have HOV := hidden hn.over
  clear h hg hn hap hb
  unfold apR at HG HS HBX HN
  unfold Stp.val
  have hX1 : (X ++ [x]).length ≤ 1000 := by simp; omega
  rw [show X ++ [x, y] = (X ++ [x]) ++ [y] by simp] at HS
  have HTK_ := hidden (takeR_calls HS.out hX1)
  go_enter Tryz.func120, Tryz.ntmps120
  go_wp2_with fail
  refine HTK_.out.mono ?_
  rintro e w2 ⟨rfl, hs2, hg2⟩
  have HS3 := hidden (StkR.alloc hs2 (.cells #[.bool y.null, .int .u64 (word (y.first) 0), .int .u64 (word (y.first) 1), .int .u64 (word (y.first) 2), .int .u64 (word (y.first) 3), .int .u64 (word (y.last) 0), .int .u64 (word (y.last) 1), .int .u64 (word (y.last) 2), .int .u64 (word (y.last) 3)] 83))
  have hm2 : Mv (fun k => k = B ∨ k = NB) base _ w2 := .grown hg2 (.inl (.inl rfl))
  have HN3 := hidden ((HN.out.took HS.out HB.out hg2).alloc (.cells #[.bool y.null, .int .u64 (word (y.first) 0), .int .u64 (word (y.first) 1), .int .u64 (word (y.first) 2), .int .u64 (word (y.first) 3), .int .u64 (word (y.last) 0), .int .u64 (word (y.last) 1), .int .u64 (word (y.last) 2), .int .u64 (word (y.last) 3)] 83))
  have HG3 := hidden (hm2.trans (Mv.alloc (.cells #[.bool y.null, .int .u64 (word (y.first) 0), .int .u64 (word (y.first) 1), .int .u64 (word (y.first) 2), .int .u64 (word (y.first) 3), .int .u64 (word (y.last) 0), .int .u64 (word (y.last) 1), .int .u64 (word (y.last) 2), .int .u64 (word (y.last) 3)] 83)))
  have HB2 := hidden hs2.1.lt
  have HY := hidden (heap_alloc_new w2 (.cells #[.bool y.null, .int .u64 (word (y.first) 0), .int .u64 (word (y.first) 1), .int .u64 (word (y.first) 2), .int .u64 (word (y.first) 3), .int .u64 (word (y.last) 0), .int .u64 (word (y.last) 1), .int .u64 (word (y.last) 2), .int .u64 (word (y.last) 3)] 83))
  clear hs2 hg2 hm2
  unfold rchV
  go_wp2_with fail
  refine (takeR_calls HS3.out (by omega)).mono ?_
  rintro e w3 ⟨rfl, hs3, hg3⟩
  have HS4 := hidden hs3
  have hm3 : Mv (fun k => k = B ∨ k = NB) base _ w3 := .grown hg3 (.inl (.inl rfl))
  have HN4 := hidden ((HN3.out.took HS3.out HB.out hg3).alloc (.cells #[.bool x.null, .int .u64 (word (x.first) 0), .int .u64 (word (x.first) 1), .int .u64 (word (x.first) 2), .int .u64 (word (x.first) 3), .int .u64 (word (x.last) 0), .int .u64 (word (x.last) 1), .int .u64 (word (x.last) 2), .int .u64 (word (x.last) 3)] 83))
  have HG4a := hidden (HG3.out.trans hm3)
  have HG4 := hidden (HG4a.out.trans (Mv.alloc (.cells #[.bool x.null, .int .u64 (word (x.first) 0), .int .u64 (word (x.first) 1), .int .u64 (word (x.first) 2), .int .u64 (word (x.first) 3), .int .u64 (word (x.last) 0), .int .u64 (word (x.last) 1), .int .u64 (word (x.last) 2), .int .u64 (word (x.last) 3)] 83)))
  have LY := hidden (show RchAt w3 w2.heap.size y from (hg3.block w2.heap.size (by simp) (by have := HB2.out; simp; omega)).trans HY.out)
  have c0 := (HBX.out w3 HG4a.out).1
  have d2 := (HBX.out w3 HG4a.out).2.1 2 _ rfl
  have hlw : w.heap.size + 3 ≤ w3.heap.size := by have := HG4a.out.size; simp at this; omega
  have hl0 : w.heap.size < w3.heap.size := by omega
  have hl1 : w.heap.size + 1 < w3.heap.size := by omega
  have hl2 : w2.heap.size < w3.heap.size := LY.out.lt
  obtain ⟨y0, y1, y2, y3, y4, y5, y6, y7, y8⟩ := LY.out.cells
  clear hs3 hg3 hm3
  unfold rchV
  go_wp2_with fail
  refine (cat_calls x y HN4.out.net HN4.out.tab HN4.out.len hF).mono ?_
  rintro e w4 ⟨rfl, hN1, hm1⟩
  have hmv : Mv (fun k => k = B ∨ k = NB) base _ w4 := hm1.mono (fun k h => h.elim)
  have HSN := hidden ((StkR.alloc HS4.out _).mv hm1 (fun h => h) (fun h => h))
  have HNN := hidden (HN4.out.to hm1 (fun k h => h.elim) (fun h => h) hN1 HN4.out.len)
  have HGN := hidden ((HG.out.trans HG4.out).trans hmv)
  have hla := (HBX.out w4 (HG4.out.trans hmv)).2.2
  obtain ⟨c0, c1, c2, c3, c4, c5, c6, c7, c8⟩ := hla.cells
  have f0 := hla.frozen 0
  have f1 := hla.frozen 1
  have f2 := hla.frozen 2
  have f3 := hla.frozen 3
  have f4 := hla.frozen 4
  have f5 := hla.frozen 5
  have f6 := hla.frozen 6
  have f7 := hla.frozen 7
  have f8 := hla.frozen 8
  have HLA := hidden hla
  clear hla
  clear hN1 hm1 hmv
  unfold rchV
  go_wp2
  exact ret_rch (l := (catR x y)) Tryz.results120 rfl rfl (RchAt.stored HLA.out (catR x y)) ⟨rfl, StkA.grown HSN.out (rch_gb _ (catR x y)) HNE.out.1 HNE.out.2.1, HNN.out.other HLA.out (by decide) (by decide) (by decide) HNE.out.2.2 (rch_gb _ (catR x y)), HGN.out.over (b := w.heap.size + 1 + 1) (by omega) (rch_gb _ (catR x y))⟩
set_option maxHeartbeats 8000000 in
set_option maxRecDepth 100000 in
theorem applyR_alt {w : World} {B NB PB base b0 g cap : Nat} {S : List (Nat → Bool)} {E : Nat → Nat → Bool} {s : Stp} {X : List Rch} {x y : Rch} (hk : s.k = 4) (h : StkR w B b0 g cap (X ++ [x, y])) (hn : NEnv NB PB base S E w) (hb : base ≤ B) (hX : X.length ≤ 999) :
    Calls Tryz.prog 120 #[s.val, .agg #[.func (.func 99) #[.pointer (some ⟨NB, 0, none⟩)] #[], .func (.func 100) #[] #[], .func (.func 101) #[.pointer (some ⟨NB, 0, none⟩)] #[], .func (.func 102) #[] #[], .func (.func 103) #[] #[.pointer (some ⟨PB, 0, none⟩)], .func (.func 104) #[.pointer (some ⟨NB, 0, none⟩)] #[], .func (.func 105) #[] #[]], .func (.func 119) #[] #[.pointer (some ⟨B, 0, none⟩)]] w fun e w' => e = .returned (rchV ⟨x.null || y.null, fAny [x.first, y.first], fAny [x.last, y.last]⟩) ∧ StkR w' B b0 g cap X ∧ NEnv NB PB base S E w' ∧ Mv (fun k => k = B ∨ k = NB) base w w' := by
  have hB := StkA.lt h
  have hNB := hn.net.lt
  obtain ⟨_, hg, _⟩ := StkA.row h
  have hap := stk_net h hn
  obtain ⟨k, a, b, c, d⟩ := s
  simp only at hk
  subst hk
  have HG := hidden (show Mv (fun k => k = B ∨ k = NB) base w (apR NB PB w ⟨4, a, b, c, d⟩) from (Mv.alloc _).trans ((Mv.alloc _).trans (Mv.alloc _)))
  have HS := hidden (show StkR (apR NB PB w ⟨4, a, b, c, d⟩) B b0 g cap (X ++ [x, y]) from ((h.alloc _).alloc _).alloc _)
  have HN := hidden (show NEnv NB PB base S E (apR NB PB w ⟨4, a, b, c, d⟩) from ((hn.alloc _).alloc _).alloc _)
  have HBX := hidden (fun w2 => boxesR (w := w) (w2 := w2) (B := B) (NB := NB) (PB := PB) (base := base) (s := ⟨4, a, b, c, d⟩) hB hNB)
  have HNE := hidden (show B ≠ w.heap.size + 2 ∧ g ≠ w.heap.size + 2 ∧ base ≤ w.heap.size + 2 from by have := hn.low; omega)
  have HAP := hidden hap
  have HB := hidden hb
  have HOV := hidden hn.over
  clear h hg hn hap hb
  unfold apR at HG HS HBX HN
  unfold Stp.val
  have hX1 : (X ++ [x]).length ≤ 1000 := by simp; omega
  rw [show X ++ [x, y] = (X ++ [x]) ++ [y] by simp] at HS
  have HTK_ := hidden (takeR_calls HS.out hX1)
  go_enter Tryz.func120, Tryz.ntmps120
  go_wp2_with fail
  refine HTK_.out.mono ?_
  rintro e w2 ⟨rfl, hs2, hg2⟩
  have HS3 := hidden (StkR.alloc hs2 (.cells #[.bool y.null, .int .u64 (word (y.first) 0), .int .u64 (word (y.first) 1), .int .u64 (word (y.first) 2), .int .u64 (word (y.first) 3), .int .u64 (word (y.last) 0), .int .u64 (word (y.last) 1), .int .u64 (word (y.last) 2), .int .u64 (word (y.last) 3)] 83))
  have hm2 : Mv (fun k => k = B ∨ k = NB) base _ w2 := .grown hg2 (.inl (.inl rfl))
  have HN3 := hidden ((HN.out.took HS.out HB.out hg2).alloc (.cells #[.bool y.null, .int .u64 (word (y.first) 0), .int .u64 (word (y.first) 1), .int .u64 (word (y.first) 2), .int .u64 (word (y.first) 3), .int .u64 (word (y.last) 0), .int .u64 (word (y.last) 1), .int .u64 (word (y.last) 2), .int .u64 (word (y.last) 3)] 83))
  have HG3 := hidden (hm2.trans (Mv.alloc (.cells #[.bool y.null, .int .u64 (word (y.first) 0), .int .u64 (word (y.first) 1), .int .u64 (word (y.first) 2), .int .u64 (word (y.first) 3), .int .u64 (word (y.last) 0), .int .u64 (word (y.last) 1), .int .u64 (word (y.last) 2), .int .u64 (word (y.last) 3)] 83)))
  have HB2 := hidden hs2.1.lt
  have HY := hidden (heap_alloc_new w2 (.cells #[.bool y.null, .int .u64 (word (y.first) 0), .int .u64 (word (y.first) 1), .int .u64 (word (y.first) 2), .int .u64 (word (y.first) 3), .int .u64 (word (y.last) 0), .int .u64 (word (y.last) 1), .int .u64 (word (y.last) 2), .int .u64 (word (y.last) 3)] 83))
  clear hs2 hg2 hm2
  unfold rchV
  go_wp2_with fail
  refine (takeR_calls HS3.out (by omega)).mono ?_
  rintro e w3 ⟨rfl, hs3, hg3⟩
  have HS4 := hidden hs3
  have hm3 : Mv (fun k => k = B ∨ k = NB) base _ w3 := .grown hg3 (.inl (.inl rfl))
  have HN4 := hidden ((HN3.out.took HS3.out HB.out hg3).alloc (.cells #[.bool x.null, .int .u64 (word (x.first) 0), .int .u64 (word (x.first) 1), .int .u64 (word (x.first) 2), .int .u64 (word (x.first) 3), .int .u64 (word (x.last) 0), .int .u64 (word (x.last) 1), .int .u64 (word (x.last) 2), .int .u64 (word (x.last) 3)] 83))
  have HG4a := hidden (HG3.out.trans hm3)
  have HG4 := hidden (HG4a.out.trans (Mv.alloc (.cells #[.bool x.null, .int .u64 (word (x.first) 0), .int .u64 (word (x.first) 1), .int .u64 (word (x.first) 2), .int .u64 (word (x.first) 3), .int .u64 (word (x.last) 0), .int .u64 (word (x.last) 1), .int .u64 (word (x.last) 2), .int .u64 (word (x.last) 3)] 83)))
  have LY := hidden (show RchAt w3 w2.heap.size y from (hg3.block w2.heap.size (by simp) (by have := HB2.out; simp; omega)).trans HY.out)
  have c0 := (HBX.out w3 HG4a.out).1
  have d3 := (HBX.out w3 HG4a.out).2.1 3 _ rfl
  have hlw : w.heap.size + 3 ≤ w3.heap.size := by have := HG4a.out.size; simp at this; omega
  have hl0 : w.heap.size < w3.heap.size := by omega
  have hl1 : w.heap.size + 1 < w3.heap.size := by omega
  have hl2 : w2.heap.size < w3.heap.size := LY.out.lt
  obtain ⟨y0, y1, y2, y3, y4, y5, y6, y7, y8⟩ := LY.out.cells
  clear hs3 hg3 hm3
  unfold rchV
  go_wp2_with fail
  refine (rchOr_calls x y _).mono ?_
  rintro e w4 ⟨rfl, hb1⟩
  have hmv : Mv (fun k => k = B ∨ k = NB) base _ w4 := .of_below hb1
  have HSN := hidden ((StkR.alloc HS4.out _).below hb1)
  have HNN := hidden (HN4.out.below hb1)
  have HGN := hidden ((HG.out.trans HG4.out).trans hmv)
  have hla := (HBX.out w4 (HG4.out.trans hmv)).2.2
  obtain ⟨c0, c1, c2, c3, c4, c5, c6, c7, c8⟩ := hla.cells
  have f0 := hla.frozen 0
  have f1 := hla.frozen 1
  have f2 := hla.frozen 2
  have f3 := hla.frozen 3
  have f4 := hla.frozen 4
  have f5 := hla.frozen 5
  have f6 := hla.frozen 6
  have f7 := hla.frozen 7
  have f8 := hla.frozen 8
  have HLA := hidden hla
  clear hla
  clear hb1 hmv
  unfold rchV
  go_wp2
  exact ret_rch (l := ⟨x.null || y.null, fAny [x.first, y.first], fAny [x.last, y.last]⟩) Tryz.results120 rfl rfl (RchAt.stored HLA.out ⟨x.null || y.null, fAny [x.first, y.first], fAny [x.last, y.last]⟩) ⟨rfl, StkA.grown HSN.out (rch_gb _ ⟨x.null || y.null, fAny [x.first, y.first], fAny [x.last, y.last]⟩) HNE.out.1 HNE.out.2.1, HNN.out.other HLA.out (by decide) (by decide) (by decide) HNE.out.2.2 (rch_gb _ ⟨x.null || y.null, fAny [x.first, y.first], fAny [x.last, y.last]⟩), HGN.out.over (b := w.heap.size + 1 + 1) (by omega) (rch_gb _ ⟨x.null || y.null, fAny [x.first, y.first], fAny [x.last, y.last]⟩)⟩
end Go.Proofs.YthkboclooplpeaaGreatDoor

/- evaluate at reach: the whole. -/
namespace Go.Proofs.YthkboclooplpeaaGreatDoor
open Go.RowKit Go.Lib Go.Joins
attribute [local go_sem] evalR_tmp evalR_const evalR_global evalR_func
theorem ret_rch_tmp {fn : Func} {R : Ending → World → Prop} {a : Act} {w : World} {B p u : Nat} {l : Rch} {v : Value} (hf : fn.results = #[.cell p 83, .tmp u]) (hp : a.tmps.getD p undef = .pointer (some ⟨B, 0, none⟩))
    (hv : a.tmps.getD u undef = v) (hd : a.defers = []) (hS : RchAt w B l) (hR : R (.returned (.tuple #[rchV l, v])) w) : bodyPost Tryz.prog fn R .ret a w := by
  refine bodyPost_ret ?_ hd hR
  rw [results_cell_tmp hf, hp]
  simp only [asAddr, Sem.run_pure, Result.andThen]
  rw [run_loadVar_row w B 83 83 _ (0, 0) _ hS Tryz.underlying83 rfl (by kernel_rfl)]
  simp only [hv]
  rfl
theorem fre_len : ∀ (l : List Ex) (i : Nat), (fRe l i).length = l.length
  | [], _ => rfl
  | x :: r, i => by simp [fRe, fre_len r]
theorem next_plcs {s : Stp} {T T' : List Ex} (h : Next s T T') : plcs T ≤ plcs T' := by
  cases h with
  | set r h e => rw [plcs_append]; omega
  | emp r e => rw [plcs_append]; omega
  | cat r a b e => simp only [plcs_append, plcs, plc]; omega
  | alt r a b e => simp only [plcs_append, plcs, plc]; omega
  | un r a e h => simp only [plcs_append, plcs, plc]; omega
theorem NEnv.same {NB PB base : Nat} {S S' : List (Nat → Bool)} {E E' : Nat → Nat → Bool} {w : World} (h : NEnv NB PB base S E w) (hS : S = S') (hE : ∀ p q, p < S.length → q < 256 → E p q = E' p q) : NEnv NB PB base S' E' w := by
  subst hS
  exact ⟨h.net.same fun p hp q hq => hE p q hp hq, h.ptr, h.tab, h.low, h.len, h.over⟩
theorem NEnv.as {NB PB base : Nat} {S S' : List (Nat → Bool)} {E E' : Nat → Nat → Bool} {w : World} (h : NEnv NB PB base S E w) (hS : S = S') (hE : E = E') : NEnv NB PB base S' E' w := by
  subst hS hE
  exact h
theorem applyR_next {s : Stp} {T T' : List Ex} (h : Next s T T') (hl : T.length ≤ 999) (hpl : plcs T' ≤ 256) : ∃ (r : Ex) (Y : List Ex), T' = Y ++ [r] ∧ Y.length ≤ T.length ∧ ∀ (w : World) (B NB PB base b0 g cap : Nat), base ≤ B → StkR w B b0 g cap (fRe T 0) → NEnv NB PB base (fSets T) (fE T 0) w →
    Calls Tryz.prog 120 #[s.val, .agg #[.func (.func 99) #[.pointer (some ⟨NB, 0, none⟩)] #[], .func (.func 100) #[] #[], .func (.func 101) #[.pointer (some ⟨NB, 0, none⟩)] #[], .func (.func 102) #[] #[], .func (.func 103) #[] #[.pointer (some ⟨PB, 0, none⟩)], .func (.func 104) #[.pointer (some ⟨NB, 0, none⟩)] #[], .func (.func 105) #[] #[]], .func (.func 119) #[] #[.pointer (some ⟨B, 0, none⟩)]] w fun e w' => e = .returned (rchV (rch r (plcs Y))) ∧ StkR w' B b0 g cap (fRe Y 0) ∧ NEnv NB PB base (fSets T') (fE T' 0) w' ∧ Mv (fun k => k = B ∨ k = NB) base w w' := by
  cases h with
  | set r h e =>
    refine ⟨.set (bitsE s), T, rfl, Nat.le_refl _, fun w B NB PB base b0 g cap hB hs hn => ?_⟩
    have hlen : (fSets T).length = plcs T := fSets_len T
    simp only [plcs_append, plcs, plc] at hpl
    refine (applyR_set (congrArg Stp.a e) (congrArg Stp.b e) (congrArg Stp.c e) (congrArg Stp.d e) h hs hn hB (by rw [fre_len]; omega) (by omega) (fun q _ => ?_)).mono fun e' w' ⟨h1, h2, h3, h4⟩ => ⟨?_, h2, h3.same ?_ ?_, h4⟩
    · rw [hlen]
      cases hc : fE T 0 (plcs T) q with
      | false => rfl
      | true => have := fE_in T 0 (plcs T) q hc; omega
    · rw [h1, hlen]; rfl
    · rw [fSets_append]; rfl
    · intro p q _ _
      rw [fE_append]
      simp [fE, gE]
  | emp r e =>
    refine ⟨.emp, T, rfl, Nat.le_refl _, fun w B NB PB base b0 g cap hB hs hn => ?_⟩
    refine (applyR_emp (congrArg Stp.k e) hs hn hB (by rw [fre_len]; omega)).mono fun e' w' ⟨h1, h2, h3, h4⟩ => ⟨by rw [h1]; rfl, h2, h3.as ?_ ?_, h4⟩
    · rw [fSets_append]; simp [fSets, setsE]
    · funext p q
      rw [fE_append]
      simp [fE, gE]
  | cat r a b e =>
    refine ⟨.cat a b, r, rfl, by simp, fun w B NB PB base b0 g cap hB hs hn => ?_⟩
    rw [fRe_append] at hs
    have hlen : (fSets (r ++ [a, b])).length = plcs r + (plc a + plc b) := by rw [fSets_len, plcs_append]; simp [plcs]
    refine (applyR_cat (X := fRe r 0) (x := rch a (0 + plcs r)) (y := rch b (0 + plcs r + plc a)) (congrArg Stp.k e) hs hn hB (by rw [fre_len]; simp at hl; omega) (fun p _ hp => ?_)).mono fun e' w' ⟨h1, h2, h3, h4⟩ => ⟨?_, h2, h3.as ?_ ?_, h4⟩
    · have := gL_in a _ p hp; omega
    · rw [h1, Nat.zero_add]; rfl
    · rw [fSets_append, fSets_append]; simp [fSets, setsE]
    · funext p q
      rw [fE_append, fE_append]
      simp [fE, gE, rch, Bool.or_assoc]
  | alt r a b e =>
    refine ⟨.alt a b, r, rfl, by simp, fun w B NB PB base b0 g cap hB hs hn => ?_⟩
    rw [fRe_append] at hs
    refine (applyR_alt (X := fRe r 0) (x := rch a (0 + plcs r)) (y := rch b (0 + plcs r + plc a)) (congrArg Stp.k e) hs hn hB (by rw [fre_len]; simp at hl; omega)).mono fun e' w' ⟨h1, h2, h3, h4⟩ => ⟨?_, h2, h3.as ?_ ?_, h4⟩
    · rw [h1, any_two, any_two, Nat.zero_add]; rfl
    · rw [fSets_append, fSets_append]; simp [fSets, setsE]
    · funext p q
      rw [fE_append, fE_append]
      simp [fE, gE]
  | un r a e h =>
    refine ⟨.un s.k a, r, rfl, by simp, fun w B NB PB base b0 g cap hB hs hn => ?_⟩
    rw [fRe_append] at hs
    have hlen : (fSets (r ++ [a])).length = plcs r + plc a := by rw [fSets_len, plcs_append]; simp [plcs]
    have hF : ∀ p, p < 256 → (rch a (0 + plcs r)).last p = true → p < (fSets (r ++ [a])).length := fun p _ hp => by have := gL_in a _ p hp; omega
    have hr : (fRe r 0).length ≤ 1000 := by rw [fre_len]; simp at hl; omega
    have hS : ∀ k, fSets (r ++ [a]) = fSets (r ++ [.un k a]) := fun k => by rw [fSets_append, fSets_append]; simp [fSets, setsE]
    rcases h with h | h | h
    · refine (applyR_star (X := fRe r 0) (x := rch a (0 + plcs r)) h hs hn hB hr hF).mono fun e' w' ⟨h1, h2, h3, h4⟩ => ⟨?_, h2, h3.as (hS _) ?_, h4⟩
      · rw [h1, h, Nat.zero_add]; rfl
      · funext p q
        rw [fE_append, fE_append, h]
        simp [fE, gE, rch, Bool.or_assoc]
    · refine (applyR_plus (X := fRe r 0) (x := rch a (0 + plcs r)) h hs hn hB hr hF).mono fun e' w' ⟨h1, h2, h3, h4⟩ => ⟨?_, h2, h3.as (hS _) ?_, h4⟩
      · rw [h1, h, Nat.zero_add]; rfl
      · funext p q
        rw [fE_append, fE_append, h]
        simp [fE, gE, rch, Bool.or_assoc]
    · refine (applyR_opt (X := fRe r 0) (x := rch a (0 + plcs r)) h hs hn hB hr).mono fun e' w' ⟨h1, h2, h3, h4⟩ => ⟨?_, h2, h3.as (hS _) ?_, h4⟩
      · rw [h1, h, Nat.zero_add]; rfl
      · funext p q
        rw [fE_append, fE_append, h]
        simp [fE, gE]
theorem infoR : (Tryz.prog.info? 83).map (fun i => (i.zero, i.size, i.bytes)) = some (some (.agg #[.bool false, .int .u64 0, .int .u64 0, .int .u64 0, .int .u64 0, .int .u64 0, .int .u64 0, .int .u64 0, .int .u64 0]), 9, 72) := by kernel_rfl
end Go.Proofs.YthkboclooplpeaaGreatDoor
