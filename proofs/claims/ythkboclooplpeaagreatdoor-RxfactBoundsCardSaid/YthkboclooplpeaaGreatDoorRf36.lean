/- FaEnd, FaEachS, put together. -/
import Derived.Test.YthkboclooplpeaaGreatDoorRf32
import Derived.Test.YthkboclooplpeaaGreatDoorRf35
import Derived.RangeFuncBox
/- The closure of Ends (it appends each end), Ends itself; what Ends and Says answer is what the reference answers. -/
namespace Go.Proofs.YthkboclooplpeaaGreatDoor
open Go.RowKit Go.Lib Go.Joins
attribute [local go_sem] evalR_tmp evalR_const evalR_global evalR_func

theorem scan_len (S E : Nat → Nat → Bool) (Lp : Nat → Bool) : ∀ (u : List Nat) (O : Nat → Bool) (i : Nat), (scan S E Lp O u i).length ≤ u.length
  | [], O, i => by simp [scan]
  | c :: u, O, i => by
    have ih := scan_len S E Lp u (after S E O c) (i + 1)
    simp only [scan]
    split
    · simp
    · rw [List.length_append]
      split <;> simp <;> omega
theorem endsF_len (L : List Stp) (s : ByteArray) (a : Nat) : (endsF L s a).length ≤ s.size + 1 := by
  unfold endsF
  split
  · unfold endsE
    have h := scan_len (gS (treeE L) 0) (gE (treeE L) 0) (gL (treeE L) 0) ((byN s).drop a) (gF (treeE L) 0) a
    rw [List.length_append]
    have hl : ((byN s).drop a).length ≤ s.size := by rw [List.length_drop, byN_len]; omega
    split <;> simp <;> omega
  · simp
theorem app_news {w : World} {k : Nat} {cur : Array Value} (hc : cur = #[.int .i64 (k : Int)]) : (w.alloc (.cells cur 3)).heap[w.heap.size]? = some (.cells #[.int .i64 (k : Int)] 3 (0, 0)) := by
  subst hc
  exact heap_alloc_new w _
set_option maxRecDepth 100000 in
theorem ends1_calls {w : World} {B base k : Nat} {v : Value} {D : List Nat} (hv : Boxed w B 27 v) (hr : RowI w base v D) (hB : B < base) (hbase : base ≤ w.heap.size) (hsz : D.length ≤ 100000) :
    Calls Tryz.prog 34 #[.int .i64 (k : Int), .pointer (some ⟨B, 0, none⟩)] w fun e w' => e = .returned (.tuple #[]) ∧ (∃ v', Boxed w' B 27 v' ∧ RowI w' base v' (D ++ [k])) ∧ Below B w w' ∧ base ≤ w'.heap.size ∧ w.heap.size ≤ w'.heap.size ∧ ∀ (j : Nat) cs t fr, w.heap[j]? = some (.cells cs t fr) → (t ≠ 3 ∧ t ≠ 27) → w'.heap[j]? = w.heap[j]? := by
  have hc := hv.cell
  have hf := hv.frozen
  have hvl := hv.lt
  obtain ⟨av, cv, rfl⟩ := own_slice hr
  have HR := hidden (hr.kept ((Below.refl w.heap.size w).alloc (Nat.le_refl _) (.cells #[.int .i64 (k : Int)] 3)))
  have HV := hidden (hv.alloc (.cells #[.int .i64 (k : Int)] 3))
  have HV0 := hidden hv
  have HR0 := hidden hr
  have HB := hidden (show base ≤ (w.alloc (.cells #[.int .i64 (k : Int)] 3)).heap.size by simp; omega)
  clear hr hv
  go_enter Tryz.func34, Tryz.ntmps34
  go_wp2_with (at_builtin; refine app_int rfl _ _ rfl rfl HR.out rfl (heap_alloc_new w _) hsz HB.out ?_; intro g' c' w1 hr1 hg1 hb1; have hv1 := HV.out.kept hg1 (HV.out.not_row (by decide) HR.out); have hc1 := hv1.cell; have hf1 := hv1.frozen)
  go_end0
  have hlow : ∀ j, (Value.slice av D.length cv).ownBlock = some j → base ≤ j := fun j e => (HR.out.lt j e).1
  refine ⟨rfl, ⟨_, hv1.set _, ?_⟩, ?_, ?_, ?_, ?_⟩
  · exact World.ownsRow.kept hr1 (grownBy_setCell' w1 B _) (.inr (hv1.not_row (by decide) hr1).symm)
  · exact (((Below.refl B w).alloc (by omega) _).trans (hb1.mono (by omega))).setCell (p := ⟨B, 0, none⟩) (Nat.le_refl _) _
  · have := hg1.size
    simp [World.setCell] at this ⊢
    omega
  · have := hg1.size
    simp [World.setCell] at this ⊢
    omega
  · intro j cs t fr hj ht
    have hj' : j < w.heap.size := (Array.getElem?_eq_some_iff.1 hj).1
    have n1 : j ≠ B := fun e => by
      have h2 := HV0.out
      unfold Boxed at h2
      rw [← e, hj] at h2
      simp only [Option.some.injEq, Obj.cells.injEq] at h2
      exact ht.2 h2.2.1
    have n2 : (Value.slice av D.length cv).ownBlock ≠ some j := own_ne HR0.out hj ht.1
    exact ((heap_setCell_other _ _ _ _ n1).trans (hg1.block j (by simp; omega) n2.symm)).trans (heap_alloc_old w _ hj')
/-- what Ends keeps while ends are seen -/
def EndJ (w0 : World) (D : List Nat) (w : World) : Prop := (∃ v, Boxed w w0.heap.size 27 v ∧ RowI w (w0.heap.size + 1) v D) ∧ Below w0.heap.size w0 w ∧ w0.heap.size + 1 ≤ w.heap.size
theorem EndJ.below {w0 w w' : World} {D : List Nat} (h : EndJ w0 D w) (hb : Below w.heap.size w w') : EndJ w0 D w' := by
  obtain ⟨⟨v, h1, h2⟩, h3, h4⟩ := h
  exact ⟨⟨v, (hb.block _ h1.lt).trans h1, h2.kept hb⟩, below_then h3 h3.size hb, Nat.le_trans h4 hb.size⟩
theorem EndJ.store {w0 w w' : World} {b : Nat} {D : List Nat} {cs : Array Value} {t : TypeId} {fr : Nat × Nat} (h : EndJ w0 D w) (hb : w.heap[b]? = some (.cells cs t fr)) (ht : t = 33 ∨ t = 83) (hbl : w0.heap.size ≤ b) (hg : w.grownBy w' (some b)) : EndJ w0 D w' := by
  obtain ⟨⟨v, h1, h2⟩, h3, h4⟩ := h
  have ti : t ≠ 3 := by rintro rfl; exact absurd ht (by decide)
  have tl : t ≠ 27 := by rintro rfl; exact absurd ht (by decide)
  have n1 : some w0.heap.size ≠ some b := fun e => by
    simp only [Option.some.injEq] at e
    have h5 := h1
    unfold Boxed at h5
    rw [e, hb] at h5
    simp only [Option.some.injEq, Obj.cells.injEq] at h5
    exact tl h5.2.1
  exact ⟨⟨v, h1.kept hg n1, World.ownsRow.kept h2 hg (.inr (own_ne h2 hb ti))⟩, h3.grown hg h3.size (fun j e => by simp only [Option.some.injEq] at e; omega), Nat.le_trans h4 hg.size⟩
theorem EndJ.seen {w0 w : World} {D : List Nat} {k : Nat} (h : EndJ w0 D w) (hsz : D.length ≤ 100000) (ht : Tab w0) :
    Calls Tryz.prog 34 #[.int .i64 (k : Int), .pointer (some ⟨w0.heap.size, 0, none⟩)] w fun e w' => e = .returned (.tuple #[]) ∧ EndJ w0 (D ++ [k]) w' ∧ Sv w w' := by
  obtain ⟨⟨v, h1, h2⟩, h3, h4⟩ := h
  refine (ends1_calls (k := k) h1 h2 (Nat.lt_succ_self _) h4 hsz).mono ?_
  rintro e w' ⟨rfl, h5, h6, h7, h8, h9⟩
  have h10 := h3.trans h6
  refine ⟨rfl, ⟨h5, h10, h7⟩, h8, fun j cs t fr hj ht' => h9 j cs t fr hj ?_, fun _ => ht.below h10⟩
  rcases ht' with rfl | rfl | rfl <;> exact ⟨by decide, by decide⟩
theorem end_start (w : World) : EndJ w [] (w.alloc (.cells #[.slice none 0 0] 27)) :=
  ⟨⟨_, Boxed.new w _ _, RowI.nil _ _⟩, (Below.refl w.heap.size w).alloc (Nat.le_refl _) _, by simp⟩
/-- what Ends answers -/
def endsA (L : List Stp) (s : ByteArray) (a : Int) : List Nat := if 0 ≤ a ∧ a ≤ s.size then endsF L s a.toNat else []
set_option maxHeartbeats 4000000 in
set_option maxRecDepth 100000 in
theorem Ends_calls {C : Nat → Prop} {v0 : Value} {L : List Stp} {w : World} {s : ByteArray} {a : Int} (h : SlX C w v0 L) (hC : ∀ b, C b → b < w.heap.size) (hwd : ∀ s ∈ L, s.wide) (ht : Tab w) (hs : s.size ≤ 1000) :
    Calls Tryz.prog 12 #[v0, .string s, .int .i64 a] w fun e w' => ∃ v, e = .returned v ∧ RdI w' v (endsA L s a) ∧ Below w.heap.size w w' := by
  by_cases ha : a < 0
  · obtain ⟨av, cv, rfl, _⟩ := h
    have hd : decide (a < 0) = true := decide_eq_true ha
    have HE := hidden (show endsA L s a = [] from if_neg (by omega))
    go_enter Tryz.func12, Tryz.ntmps12
    go_wp2
    go_ret
    exact ⟨_, rfl, by rw [HE.out]; exact ⟨none, 0, rfl, fun h => absurd h (by simp)⟩, Below.refl _ _⟩
  · obtain ⟨k, rfl⟩ : ∃ k : Nat, a = k := ⟨a.toNat, by omega⟩
    have hd : decide ((k : Int) < 0) = false := decide_eq_false (by omega)
    by_cases hk : s.size < k
    · obtain ⟨av, cv, rfl, _⟩ := h
      have hd1 : decide ((s.size : Int) < k) = true := decide_eq_true (by omega)
      have hd2 : decide (s.size < k) = true := decide_eq_true (by omega)
      have HE := hidden (show endsA L s k = [] from if_neg (by omega))
      clear hk ha
      go_enter Tryz.func12, Tryz.ntmps12
      go_wp2
      go_ret
      exact ⟨_, rfl, by rw [HE.out]; exact ⟨none, 0, rfl, fun h => absurd h (by simp)⟩, Below.refl _ _⟩
    · have hd1 : decide ((s.size : Int) < k) = false := decide_eq_false (by omega)
      have hd2 : decide (s.size < k) = false := decide_eq_false (by omega)
      have HE := hidden (show endsA L s k = endsF L s k from by unfold endsA; rw [if_pos (by omega), Int.toNat_natCast])
      have hba := (Below.refl w.heap.size w).alloc (Nat.le_refl _) (.cells #[.slice none 0 0] 27)
      have hsl := h.below (C' := C) (w' := w.alloc (.cells #[.slice none 0 0] 27)) fun b hb => ⟨hb, hba.block b (hC b hb)⟩
      have hlen := endsF_len L s k
      have HX := hidden (eachE_calls (s := s) (a := k) w.heap.size (EndJ w) hsl (fun b hb => by have := hC b hb; simp; omega) hwd (ht.below hba) (by omega) (by omega) (end_start w) (fun D a b hj hb => hj.below hb)
        (fun D wx b cs t fr w' hj hb ht' hle hg => hj.store hb ht' (by simp at hle; omega) hg) (fun D wx k hj _ hl => hj.seen (by omega) ht))
      obtain ⟨av, cv, rfl, _⟩ := h
      generalize endsF L s k = D at *
      clear hsl hba ht hlen hk ha
      go_enter Tryz.func12, Tryz.ntmps12
      go_wp2_with fail
      refine HX.out.mono ?_
      rintro e w2 ⟨rfl, ⟨v, h1, h2⟩, h3, _⟩
      have HB := hidden h3
      have HR := hidden h2.reads
      have k0 := h1.cell
      obtain ⟨bv, dv, rfl⟩ := own_slice h2
      clear h1 h2 h3
      go_wp2
      go_ret
      exact ⟨_, rfl, by rw [HE.out]; exact HR.out, HB.out⟩
/-- the program's ends are the reference's -/
theorem endsF_V {L : List Stp} (hwd : ∀ s ∈ L, s.wide) (s : ByteArray) (k : Nat) (hk : k ≤ s.size) : endsF L s k = endsV L (byN s) k := by
  by_cases hz : (measV L).2 = 0
  · rw [endsV_yes hz (by rw [byN_len]; exact hk)]
    unfold endsF
    rw [if_pos hz]
    exact endsE_eq (tree_of (meas_expr hz).2 hwd).2.1 (expr_plc hz hwd) (by rw [byN_len]; exact hk)
  · rw [endsV_no (.inl hz)]
    unfold endsF
    rw [if_neg hz]
theorem endsA_V {L : List Stp} (hwd : ∀ s ∈ L, s.wide) (s : ByteArray) (a : Int) : endsA L s a = endsV L (byN s) a := by
  unfold endsA
  split
  · rename_i h
    rw [endsF_V hwd s _ (by omega), Int.toNat_of_nonneg h.1]
  · rename_i h
    rw [endsV_no (.inr (by rw [byN_len]; omega))]
end Go.Proofs.YthkboclooplpeaaGreatDoor

/- eachEnd with the closure of Says: it sees each end, the least one first. -/
namespace Go.Proofs.YthkboclooplpeaaGreatDoor
open Go.RowKit Go.Lib Go.Joins
attribute [local go_sem] evalR_tmp evalR_const evalR_global evalR_func
set_option maxHeartbeats 8000000 in
set_option maxRecDepth 100000 in
theorem eachS_calls {C : Nat → Prop} {v0 : Value} {L : List Stp} {w : World} {s : ByteArray} {a : Nat} (c1 c2 : Nat) (J : List Nat → World → Prop) (h : SlX C w v0 L) (hC : ∀ b, C b → b < w.heap.size) (hwd : ∀ s ∈ L, s.wide) (ht : Tab w) (ha : a ≤ s.size) (hs : s.size ≤ 1000000)
    (hJ0 : J [] w) (hJb : ∀ (D : List Nat) (w w' : World), J D w → Below w.heap.size w w' → J D w') (hJs : ∀ (D : List Nat) (wx : World) (b : Nat) (cs : Array Value) (t : TypeId) (fr : Nat × Nat) (w' : World), J D wx → wx.heap[b]? = some (.cells cs t fr) → (t = 33 ∨ t = 83) → w.heap.size ≤ b → wx.grownBy w' (some b) → J D w')
    (hJc : ∀ D w (k : Nat), J D w → k ≤ 2000000 → Calls Tryz.prog 33 #[.int .i64 (k : Int), .pointer (some ⟨c1, 0, none⟩), .pointer (some ⟨c2, 0, none⟩)] w fun e w' => e = .returned (.tuple #[]) ∧ J (D ++ [k]) w' ∧ Sv w w') :
    Calls Tryz.prog 32 #[v0, .string s, .int .i64 (a : Int), .func (.func 33) #[] #[.pointer (some ⟨c1, 0, none⟩), .pointer (some ⟨c2, 0, none⟩)]] w fun e w' => e = .returned (.tuple #[]) ∧ J (endsF L s a) w' := by
  have HNN := hidden (newNet_calls h hC hwd ht)
  have HPL := hidden (fun hz => expr_plc (L := L) hz hwd)
  have HWN := hidden (fun hz => (show (rchF L).null = nul (treeE L) ∧ (rchF L).first = gF (treeE L) 0 ∧ (rchF L).last = gL (treeE L) 0 from by unfold rchF; rw [if_pos hz]; exact ⟨rfl, rfl, rfl⟩))
  have HWF := hidden (fun hz p (hp : (rchF L).first p = true) => (show p < plc (treeE L) from by rw [(HWN.out hz).2.1] at hp; have := gF_in _ _ _ hp; omega))
  have HJ0 := hidden hJ0
  have HJb := hidden hJb
  have HJs := hidden hJs
  have HJc := hidden hJc
  have HTB := hidden ht
  have HTLT := hidden (cell_lt (ht 0 (by decide)))
  have HW1S := hidden (fun (w1 : World) (hb : Below w.heap.size w w1) => hb.size)
  have HEF := hidden (fun hz => endsF_eq (L := L) (s := s) (a := a) hz hwd)
  obtain ⟨av, cv, rfl, _⟩ := h
  generalize hef : endsF L s a = RS at *
  have hokv : ∀ b, decide ((measV L).2 = 0) = b → b = true → (measV L).2 = 0 := fun b h1 h2 => by rw [h2] at h1; exact of_decide_eq_true h1
  have hnov : decide ((measV L).2 = 0) = false → RS = [] := fun h1 => by rw [← hef]; unfold endsF; rw [if_neg (of_decide_eq_false h1)]
  generalize decide ((measV L).2 = 0) = ok at *
  have HOK := hidden (hokv ok rfl)
  have HNO := hidden hnov
  generalize rchF L = wh at *
  clear hJ0 hJb hJs hJc ht hC hwd hef hokv hnov
  cases hok : ok with
  | false =>
    rw [hok] at HNN HNO
    have HR := hidden (HNO.out rfl)
    clear hok
    go_enter Tryz.func32, Tryz.ntmps32
    go_wp2_with fail
    refine HNN.out.mono ?_
    rintro e w1 ⟨rfl, _, hb1⟩
    have HJ1 := hidden (HJb.out _ _ _ (HJb.out _ _ _ HJ0.out hb1) ((Below.refl _ _).alloc (Nat.le_refl _) (.cells #[.bool wh.null, .int .u64 (word (wh.first) 0), .int .u64 (word (wh.first) 1), .int .u64 (word (wh.first) 2), .int .u64 (word (wh.first) 3), .int .u64 (word (wh.last) 0), .int .u64 (word (wh.last) 1), .int .u64 (word (wh.last) 2), .int .u64 (word (wh.last) 3)] 83)))
    clear hb1
    unfold rchV
    go_wp2
    refine bodyPost_ret (results_none rfl _ _ _) rfl ?_
    exact ⟨rfl, by rw [HR.out]; exact HJ1.out⟩
  | true =>
    rw [hok] at HNN
    have hz := HOK.out hok
    clear hok
    have HEQ := hidden (HEF.out hz)
    generalize hT : treeE L = T at *
    have hpl : plc T ≤ 256 := HPL.out hz
    obtain ⟨nl, fi, la⟩ := wh
    have hnul : nl = nul T := (HWN.out hz).1
    have hfi : fi = gF T 0 := (HWN.out hz).2.1
    have hla : la = gL T 0 := (HWN.out hz).2.2
    obtain ⟨D0, hDD⟩ : ∃ D0, D0 = (if nl = true then [a] else ([] : List Nat)) := ⟨_, rfl⟩
    have HD0 := hidden (show (if nul T = true then [a] else []) = D0 from by rw [hDD, hnul])
    have HDJ := hidden (fun w' (h : J (if nl = true then [a] else []) w') => (show J D0 w' from by rw [hDD]; exact h))
    clear hDD
    have HFI := hidden hfi
    have HLA := hidden hla
    have HNW := hidden (fun w1 (h : (measV L).2 = 0 → NetAt w1 (w.heap.size + 1) w.heap.size (setsE T) (gE T 0)) => h hz)
    have hq := fun w f => eq_none w f
    simp only [none_sameL] at hq
    have HQ := hidden hq
    clear hq
    unfold rchV at HNN
    simp only at HNN
    clear hnul hfi hla HWN HWF HPL hz HEF HNO HOK
    cases nl
    case' true =>
      go_enter Tryz.func32, Tryz.ntmps32
      go_wp2_with fail
      refine HNN.out.mono ?_
      rintro e w1 ⟨rfl, hN1, hb1⟩
      have HWS := hidden hb1.size
      have hb1' := hb1.alloc (by have := hb1.size; omega) (.cells #[.bool true, .int .u64 (word (fi) 0), .int .u64 (word (fi) 1), .int .u64 (word (fi) 2), .int .u64 (word (fi) 3), .int .u64 (word (la) 0), .int .u64 (word (la) 1), .int .u64 (word (la) 2), .int .u64 (word (la) 3)] 83)
      have HJ1 := hidden (HJb.out _ _ _ HJ0.out hb1')
      have HN1 := hidden ((HNW.out w1 hN1).below ((Below.refl _ _).alloc (Nat.le_refl _) (.cells #[.bool true, .int .u64 (word (fi) 0), .int .u64 (word (fi) 1), .int .u64 (word (fi) 2), .int .u64 (word (fi) 3), .int .u64 (word (la) 0), .int .u64 (word (la) 1), .int .u64 (word (la) 2), .int .u64 (word (la) 3)] 83)))
      have HT1 := hidden (HTB.out.below hb1')
      have HW1 := hidden (heap_alloc_new w1 (.cells #[.bool true, .int .u64 (word (fi) 0), .int .u64 (word (fi) 1), .int .u64 (word (fi) 2), .int .u64 (word (fi) 3), .int .u64 (word (la) 0), .int .u64 (word (la) 1), .int .u64 (word (la) 2), .int .u64 (word (la) 3)] 83))
      clear hN1 hb1 hb1'
      go_wp2_with fail
      refine (HJc.out [] _ a HJ1.out (by omega)).mono ?_
      rintro e w2 ⟨rfl, hJ2, hS2⟩
      have hr2 := hS2.at HW1.out (.inr (.inl rfl))
      have hn2 := hS2.net HN1.out
      have ht2 := hS2.tab HT1.out
      have hJ2' : J D0 w2 := HDJ.out w2 (by simpa using hJ2)
      have hb9 : w1.heap.size < w2.heap.size := (Array.getElem?_eq_some_iff.1 hr2).1
      clear hJ2 hS2
      obtain ⟨z0, z1, z2, z3, z4, z5, z6, z7, z8⟩ := (show RchAt w2 w1.heap.size ⟨true, fi, la⟩ from hr2).cells
      simp only at z0 z1 z2 z3 z4 z5 z6 z7 z8
      have hr3 : ∃ nv, RchAt w2 w1.heap.size ⟨nv, fi, la⟩ := ⟨true, hr2⟩
      clear hr2
      obtain ⟨b11, h11⟩ : ∃ b, w2.heap.size = b := ⟨_, rfl⟩
      have H11 := hidden h11
      have HO := hidden (show SetAt (w2.alloc (.cells #[.int .u64 (word (fi) 0), .int .u64 (word (fi) 1), .int .u64 (word (fi) 2), .int .u64 (word (fi) 3)] 33)) b11 fi from by rw [← h11]; exact heap_alloc_new w2 _)
      have HLT := hidden (show w1.heap.size < b11 from by omega)
      clear h11
    case' false =>
      go_enter Tryz.func32, Tryz.ntmps32
      go_wp2_with fail
      refine HNN.out.mono ?_
      rintro e w1 ⟨rfl, hN1, hb1⟩
      have HWS := hidden hb1.size
      have hb1' := hb1.alloc (by have := hb1.size; omega) (.cells #[.bool false, .int .u64 (word (fi) 0), .int .u64 (word (fi) 1), .int .u64 (word (fi) 2), .int .u64 (word (fi) 3), .int .u64 (word (la) 0), .int .u64 (word (la) 1), .int .u64 (word (la) 2), .int .u64 (word (la) 3)] 83)
      have hJ2' : J D0 (w1.alloc (.cells #[.bool false, .int .u64 (word (fi) 0), .int .u64 (word (fi) 1), .int .u64 (word (fi) 2), .int .u64 (word (fi) 3), .int .u64 (word (la) 0), .int .u64 (word (la) 1), .int .u64 (word (la) 2), .int .u64 (word (la) 3)] 83)) := HDJ.out _ (by simpa using HJb.out _ _ _ HJ0.out hb1')
      have hn2 := ((HNW.out w1 hN1).below ((Below.refl _ _).alloc (Nat.le_refl _) (.cells #[.bool false, .int .u64 (word (fi) 0), .int .u64 (word (fi) 1), .int .u64 (word (fi) 2), .int .u64 (word (fi) 3), .int .u64 (word (la) 0), .int .u64 (word (la) 1), .int .u64 (word (la) 2), .int .u64 (word (la) 3)] 83)))
      have ht2 := HTB.out.below hb1'
      have hr2 := heap_alloc_new w1 (.cells #[.bool false, .int .u64 (word (fi) 0), .int .u64 (word (fi) 1), .int .u64 (word (fi) 2), .int .u64 (word (fi) 3), .int .u64 (word (la) 0), .int .u64 (word (la) 1), .int .u64 (word (la) 2), .int .u64 (word (la) 3)] 83)
      have hb9 : w1.heap.size < (w1.alloc (.cells #[.bool false, .int .u64 (word (fi) 0), .int .u64 (word (fi) 1), .int .u64 (word (fi) 2), .int .u64 (word (fi) 3), .int .u64 (word (la) 0), .int .u64 (word (la) 1), .int .u64 (word (la) 2), .int .u64 (word (la) 3)] 83)).heap.size := by simp
      clear hN1 hb1 hb1'
      have hr3 : ∃ nv, RchAt (w1.alloc (.cells #[.bool false, .int .u64 (word (fi) 0), .int .u64 (word (fi) 1), .int .u64 (word (fi) 2), .int .u64 (word (fi) 3), .int .u64 (word (la) 0), .int .u64 (word (la) 1), .int .u64 (word (la) 2), .int .u64 (word (la) 3)] 83)) w1.heap.size ⟨nv, fi, la⟩ := ⟨false, hr2⟩
      clear hr2
      obtain ⟨b11, h11⟩ : ∃ b, w1.heap.size + 1 = b := ⟨_, rfl⟩
      have H11 := hidden h11
      have HO := hidden (show SetAt ((w1.alloc (.cells #[.bool false, .int .u64 (word (fi) 0), .int .u64 (word (fi) 1), .int .u64 (word (fi) 2), .int .u64 (word (fi) 3), .int .u64 (word (la) 0), .int .u64 (word (la) 1), .int .u64 (word (la) 2), .int .u64 (word (la) 3)] 83)).alloc (.cells #[.int .u64 (word (fi) 0), .int .u64 (word (fi) 1), .int .u64 (word (fi) 2), .int .u64 (word (fi) 3)] 33)) b11 fi from by rw [← h11]; exact heap_alloc2_new w1 _ _)
      have HLT := hidden (show w1.heap.size < b11 from by omega)
      clear h11
    all_goals
      obtain ⟨nv, hr2⟩ := hr3
      have HR2 := hidden hr2
      obtain ⟨vs, vn, hv2⟩ := hn2
      have HV2 := hidden hv2
      have HNB := hidden (show vs.ownBlock ≠ some b11 ∧ vn.ownBlock ≠ some b11 ∧ w.heap.size + 1 ≠ b11 from ⟨own_lt hv2.sets (by first | exact Nat.le_of_eq H11.out | (have := H11.out; simp; omega)), own_lt hv2.next (by first | exact Nat.le_of_eq H11.out | (have := H11.out; simp; omega)), by have h1 := hv2.lt; have h2 := H11.out; first | omega | (simp at h1; omega)⟩)
      have HT2 := hidden ht2
      have HJ2 := hidden hJ2'
      have HE0 := hidden (show D0 ++ scan (gS T 0) (gE T 0) (gL T 0) (gF T 0) ((byN s).drop a) a = RS by rw [HEQ.out, HD0.out])
      clear hr2 hv2 ht2 hJ2'
      have HAL := hidden (fun (o : Obj) => And.intro (HR2.out.below ((Below.refl _ _).alloc (Nat.le_refl _) o)) (And.intro (HV2.out.below ((Below.refl _ _).alloc (Nat.le_refl _) o)) (And.intro (HT2.out.below ((Below.refl _ _).alloc (Nat.le_refl _) o)) (HJb.out _ _ _ HJ2.out ((Below.refl _ _).alloc (Nat.le_refl _) o)))))
      have HGF := hidden (show ∀ q, fi q = true → q < plc T from fun q hq => by rw [HFI.out] at hq; have := gF_in _ _ _ hq; omega)
      rw [← HFI.out] at HE0
      have HTL := hidden (fun p (hp : p < s.size) => byN_drop s p hp)
      go_wp2
      simp only [H11.out]
      go_loopw [13] (fun i wr => ∃ (p : Nat) (D : List Nat) (O : Nat → Bool), p ≤ s.size ∧ i = .int .i64 p ∧ RchAt wr w1.heap.size ⟨nv, fi, la⟩ ∧ SetAt wr b11 O ∧ NetV wr (w.heap.size + 1) w.heap.size vs vn (setsE T).length ((setsE T).flatMap netC) (((List.range (setsE T).length).map (gE T 0)).flatMap netC) ∧ Tab wr ∧ J D wr ∧ D ++ scan (gS T 0) (gE T 0) (gL T 0) O ((byN s).drop p) p = RS ∧ (∀ q, O q = true → q < plc T)) (fun i _ => s.size - (intOf i).toNat)
      case atStart =>
        obtain ⟨k1, k2, k3, k4⟩ := HAL.out (.cells #[.int .u64 (word (fi) 0), .int .u64 (word (fi) 1), .int .u64 (word (fi) 2), .int .u64 (word (fi) 3)] 33)
        exact ⟨a, D0, fi, ha, rfl, k1, HO.out, k2, k3, k4, HE0.out, HGF.out⟩
      case round =>
        obtain ⟨p, D, O, hp, rfl, hr, ho, hn, ht, hj, he, hO⟩ := hrel
        have HRr := hidden hr
        have HOr := hidden ho
        have HNr := hidden hn
        have HTr := hidden ht
        have HJr := hidden hj
        have HEr := hidden he
        have HOO := hidden hO
        obtain ⟨o0, o1, o2, o3, o4, o5, o6, o7⟩ := ho.facts
        obtain ⟨r0, r1, r2, r3, r4, r5, r6, r7, r8⟩ := hr.cells
        have hqO := fun w => HQ.out w O
        clear hr ho hn ht hj he hO
        by_cases hlt : p < s.size
        · rcases Bool.eq_false_or_eq_true (noneF O) with hno | hno
          · have HNO := hidden hno
            rw [hno] at hqO
            clear hno
            go_wp2
            refine bodyPost_end (results_none rfl _ _ _) rfl ?_
            refine ⟨rfl, ?_⟩
            have h := HEr.out
            rw [HTL.out p hlt] at h
            simp only [scan] at h
            rw [if_pos HNO.out, List.append_nil] at h
            rw [← h]
            exact HJr.out
          · rw [hno] at hqO
            have HNO := hidden hno
            have HRD := hidden (read_calls (w := wr.drew) O la s[p].toNat (UInt8.toNat_lt _) ⟨vs, vn, HNr.out.below (Below.refl _ _).drew⟩ (HTr.out.below (Below.refl _ _).drew) (fun q _ hq' => by rw [setsE_len]; exact HOO.out q hq'))
            clear hno
            have hA := aftF_eq T O (c := s[p].toNat) (UInt8.toNat_lt _)
            have hB := endF_eq T O (c := s[p].toNat) (UInt8.toNat_lt _)
            unfold aftF at hA
            unfold endF at hB
            rw [← HLA.out] at hB
            have hAin : ∀ q, aftK (setsE T) (gE T 0) (elems O) s[p].toNat (elems O).length q = true → q < plc T := fun q hq => by
              simp only [aftK, List.any_eq_true, Bool.and_eq_true] at hq
              obtain ⟨r, _, _, h⟩ := hq
              have := gE_in T 0 r q h
              omega
            have hst : D ++ ((if endK (setsE T) la (elems O) s[p].toNat (elems O).length = true then [p + 1] else []) ++ scan (gS T 0) (gE T 0) (gL T 0) (aftK (setsE T) (gE T 0) (elems O) s[p].toNat (elems O).length) ((byN s).drop (p + 1)) (p + 1)) = RS := by
              have h := HEr.out
              rw [HTL.out p hlt] at h
              simp only [scan] at h
              rw [if_neg (by rw [HNO.out]; simp), ← hA] at h
              rw [hB, HLA.out]
              exact h
            obtain ⟨A, hA0⟩ : ∃ A, A = aftK (setsE T) (gE T 0) (elems O) s[p].toNat (elems O).length := ⟨_, rfl⟩
            obtain ⟨eb, hB0⟩ : ∃ eb, eb = endK (setsE T) la (elems O) s[p].toNat (elems O).length := ⟨_, rfl⟩
            rw [← hA0, ← hB0] at HRD hst
            rw [← hA0] at hAin
            have HST := hidden hst
            have HAI := hidden hAin
            clear hA hB hA0 hB0 hst hAin
            have HK := hidden (fun (w3 : World) (hb3 : Below wr.heap.size wr w3) => (show RchAt (((( w3.setCell ⟨b11, 0, none⟩ (.int .u64 (word A 0))).setCell ⟨b11, 1, none⟩ (.int .u64 (word A 1))).setCell ⟨b11, 2, none⟩ (.int .u64 (word A 2))).setCell ⟨b11, 3, none⟩ (.int .u64 (word A 3))) w1.heap.size ⟨nv, fi, la⟩ ∧ SetAt (((( w3.setCell ⟨b11, 0, none⟩ (.int .u64 (word A 0))).setCell ⟨b11, 1, none⟩ (.int .u64 (word A 1))).setCell ⟨b11, 2, none⟩ (.int .u64 (word A 2))).setCell ⟨b11, 3, none⟩ (.int .u64 (word A 3))) b11 A ∧ NetV (((( w3.setCell ⟨b11, 0, none⟩ (.int .u64 (word A 0))).setCell ⟨b11, 1, none⟩ (.int .u64 (word A 1))).setCell ⟨b11, 2, none⟩ (.int .u64 (word A 2))).setCell ⟨b11, 3, none⟩ (.int .u64 (word A 3))) (w.heap.size + 1) w.heap.size vs vn (setsE T).length ((setsE T).flatMap netC) (((List.range (setsE T).length).map (gE T 0)).flatMap netC) ∧ Tab (((( w3.setCell ⟨b11, 0, none⟩ (.int .u64 (word A 0))).setCell ⟨b11, 1, none⟩ (.int .u64 (word A 1))).setCell ⟨b11, 2, none⟩ (.int .u64 (word A 2))).setCell ⟨b11, 3, none⟩ (.int .u64 (word A 3))) ∧ J D (((( w3.setCell ⟨b11, 0, none⟩ (.int .u64 (word A 0))).setCell ⟨b11, 1, none⟩ (.int .u64 (word A 1))).setCell ⟨b11, 2, none⟩ (.int .u64 (word A 2))).setCell ⟨b11, 3, none⟩ (.int .u64 (word A 3))) from by
              have ho3 := HOr.out.below hb3
              have hg : w3.grownBy (((( w3.setCell ⟨b11, 0, none⟩ (.int .u64 (word A 0))).setCell ⟨b11, 1, none⟩ (.int .u64 (word A 1))).setCell ⟨b11, 2, none⟩ (.int .u64 (word A 2))).setCell ⟨b11, 3, none⟩ (.int .u64 (word A 3))) (some b11) := gb_sets (gb_sets (gb_sets (gb_set b11 0 _) 1 _) 2 _) 3 _
              refine ⟨(HRr.out.below hb3).other hg (by have := HLT.out; omega), ho3.stored, (HNr.out.below hb3).grown hg HNB.out.2.2 HNB.out.1 HNB.out.2.1, ?_, HJs.out _ _ _ _ _ _ _ (HJb.out _ _ _ HJr.out hb3) ho3 (.inl rfl) (by have h1 := HLT.out; have h3 := HWS.out; omega) hg⟩
              exact fun j hj => (World.cell?_of_block (hg.block _ (cell_lt ((HTr.out.below hb3) j hj)) (by have h1 := HLT.out; have h2 := HTLT.out; have h3 := HWS.out; (first | omega | (simp; omega) | (simp at h2; omega) | (simp; simp at h2; omega))))).trans ((HTr.out.below hb3) j hj)))
            go_wp2
            go_region_with (go_at_call 72; refine HRD.out.mono ?_; rintro e w3 ⟨rfl, hb3⟩; have HOR3 := hidden (HOr.out.below (show Below wr.heap.size wr w3 from ⟨hb3.os, hb3.tape, hb3.output, hb3.size, hb3.block⟩)); obtain ⟨x0, x1, x2, x3, y0, y1, y2, y3⟩ := HOR3.out.facts)
            all_goals
              have HK3 := hidden (HK.out w3 ⟨hb3.os, hb3.tape, hb3.output, hb3.size, hb3.block⟩)
              clear hb3
              cases heb : eb with
              | true =>
                have HSTT := hidden (show (D ++ [p + 1]) ++ scan (gS T 0) (gE T 0) (gL T 0) A ((byN s).drop (p + 1)) (p + 1) = RS from by have h := HST.out; rw [heb, if_pos rfl] at h; rw [List.append_assoc]; exact h)
                clear heb
                go_wp2_with fail
                refine (HJc.out D _ (p + 1) HK3.out.2.2.2.2 (by omega)).mono ?_
                rintro e w5 ⟨rfl, hJ5, hS5⟩
                have HR5 := hidden (hS5.at HK3.out.1 (.inr (.inl rfl)))
                have HO5 := hidden (hS5.at HK3.out.2.1 (.inl rfl))
                have HV5 := hidden (show NetV w5 (w.heap.size + 1) w.heap.size vs vn (setsE T).length ((setsE T).flatMap netC) (((List.range (setsE T).length).map (gE T 0)).flatMap netC) from ⟨hS5.at HK3.out.2.2.1.obj (.inr (.inr rfl)), hS5.row HK3.out.2.2.1.sets, hS5.row HK3.out.2.2.1.next, HK3.out.2.2.1.apart⟩)
                have HT5 := hidden (hS5.tab HK3.out.2.2.2.1)
                have HJ5 := hidden hJ5
                clear hJ5 hS5
                go_wp2
                have hlt' := hlt
                go_roundw
                case rel => exact ⟨p + 1, D ++ [p + 1], A, by omega, by go_num, HR5.out, HO5.out, HV5.out, HT5.out, HJ5.out, HSTT.out, HAI.out⟩
                case measure => simp [intOf]; omega
              | false =>
                have HSTT := hidden (show D ++ scan (gS T 0) (gE T 0) (gL T 0) A ((byN s).drop (p + 1)) (p + 1) = RS from by have h := HST.out; rw [heb, if_neg (by simp), List.nil_append] at h; exact h)
                clear heb
                go_wp2
                have hlt' := hlt
                go_roundw
                case rel => exact ⟨p + 1, D, A, by omega, by go_num, HK3.out.1, HK3.out.2.1, HK3.out.2.2.1, HK3.out.2.2.2.1, HK3.out.2.2.2.2, HSTT.out, HAI.out⟩
                case measure => simp [intOf]; omega
        · obtain rfl : p = s.size := by omega
          go_wp2
          refine bodyPost_end (results_none rfl _ _ _) rfl ?_
          refine ⟨rfl, ?_⟩
          have h := HEr.out
          rw [List.drop_eq_nil_of_le (by rw [byN_len]; omega)] at h
          simp only [scan, List.append_nil] at h
          rw [← h]
          exact HJr.out
end Go.Proofs.YthkboclooplpeaaGreatDoor
