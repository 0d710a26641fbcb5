/- FaEvR, FaNew, put together. -/
import Derived.Test.YthkboclooplpeaaGreatDoorRf28
import Derived.StillTailTactics
/- evaluate at reach: the whole. -/
namespace Go.Proofs.YthkboclooplpeaaGreatDoor
open Go.RowKit Go.Lib Go.Joins
attribute [local go_sem] evalR_tmp evalR_const evalR_global evalR_func
theorem NEnv.rowed {NB PB base b0 g n cap : Nat} {S : List (Nat → Bool)} {E : Nat → Nat → Bool} {w w' : World} {xs : List Value} (h : NEnv NB PB base S E w) (ho : w.ownsRow b0 83 9 (.slice (some ⟨g, 0, none⟩) n cap) n xs) (hb : base ≤ g) (hg : w.grownBy w' (some g)) : NEnv NB PB base S E w' := by
  rcases own_some ho with e | ⟨g', e, _, _, cs, fr, h3⟩
  · cases e
  · simp only [Value.ownBlock, Option.some.injEq] at e
    subst e
    exact h.other h3 (by decide) (by decide) (by decide) hb hg
set_option maxHeartbeats 8000000 in
set_option maxRecDepth 100000 in
theorem evalR_none {C : Nat → Prop} {v0 : Value} {L : List Stp} {w : World} {NB PB : Nat} (h : SlX C w v0 L) (hC : ∀ b, C b → b < w.heap.size) (hz : (measV L).2 ≠ 0) :
    Calls Tryz.prog 98 #[v0, .agg #[.func (.func 99) #[.pointer (some ⟨NB, 0, none⟩)] #[], .func (.func 100) #[] #[], .func (.func 101) #[.pointer (some ⟨NB, 0, none⟩)] #[], .func (.func 102) #[] #[], .func (.func 103) #[] #[.pointer (some ⟨PB, 0, none⟩)], .func (.func 104) #[.pointer (some ⟨NB, 0, none⟩)] #[], .func (.func 105) #[] #[]]] w fun e w' => e = .returned (.tuple #[rchV ⟨false, fNone, fNone⟩, .bool false]) ∧ Below w.heap.size w w' := by
  have hba := ((Below.refl w.heap.size w).alloc (Nat.le_refl _) (.cells #[.func (.func 99) #[.pointer (some ⟨NB, 0, none⟩)] #[], .func (.func 100) #[] #[], .func (.func 101) #[.pointer (some ⟨NB, 0, none⟩)] #[], .func (.func 102) #[] #[], .func (.func 103) #[] #[.pointer (some ⟨PB, 0, none⟩)], .func (.func 104) #[.pointer (some ⟨NB, 0, none⟩)] #[], .func (.func 105) #[] #[]] 118)).alloc (by simp) (.cells #[.bool false, .int .u64 0, .int .u64 0, .int .u64 0, .int .u64 0, .int .u64 0, .int .u64 0, .int .u64 0, .int .u64 0] 83)
  have hsl := h.below (C' := fun b => b < ((w.alloc (.cells #[.func (.func 99) #[.pointer (some ⟨NB, 0, none⟩)] #[], .func (.func 100) #[] #[], .func (.func 101) #[.pointer (some ⟨NB, 0, none⟩)] #[], .func (.func 102) #[] #[], .func (.func 103) #[] #[.pointer (some ⟨PB, 0, none⟩)], .func (.func 104) #[.pointer (some ⟨NB, 0, none⟩)] #[], .func (.func 105) #[] #[]] 118)).alloc (.cells #[.bool false, .int .u64 0, .int .u64 0, .int .u64 0, .int .u64 0, .int .u64 0, .int .u64 0, .int .u64 0, .int .u64 0] 83)).heap.size) (w' := (w.alloc (.cells #[.func (.func 99) #[.pointer (some ⟨NB, 0, none⟩)] #[], .func (.func 100) #[] #[], .func (.func 101) #[.pointer (some ⟨NB, 0, none⟩)] #[], .func (.func 102) #[] #[], .func (.func 103) #[] #[.pointer (some ⟨PB, 0, none⟩)], .func (.func 104) #[.pointer (some ⟨NB, 0, none⟩)] #[], .func (.func 105) #[] #[]] 118)).alloc (.cells #[.bool false, .int .u64 0, .int .u64 0, .int .u64 0, .int .u64 0, .int .u64 0, .int .u64 0, .int .u64 0, .int .u64 0] 83)) fun b hb => ⟨Nat.lt_of_lt_of_le (hC b hb) hba.size, hba.block b (hC b hb)⟩
  have HCK := hidden (check_slX hsl fun b hb => hb)
  have q1 : ((measV L).2 != 0) = true := by simpa using hz
  have HB := hidden hba
  have HT4 := hidden (heap_alloc2_new w (.cells #[.func (.func 99) #[.pointer (some ⟨NB, 0, none⟩)] #[], .func (.func 100) #[] #[], .func (.func 101) #[.pointer (some ⟨NB, 0, none⟩)] #[], .func (.func 102) #[] #[], .func (.func 103) #[] #[.pointer (some ⟨PB, 0, none⟩)], .func (.func 104) #[.pointer (some ⟨NB, 0, none⟩)] #[], .func (.func 105) #[] #[]] 118) (.cells #[.bool false, .int .u64 0, .int .u64 0, .int .u64 0, .int .u64 0, .int .u64 0, .int .u64 0, .int .u64 0, .int .u64 0] 83))
  obtain ⟨av, cv, rfl, _⟩ := h
  generalize (measV L).2 = z at *
  generalize hvz : rchV ⟨false, fNone, fNone⟩ = vz
  have HVL := hidden hvz
  clear hsl hz hba hvz
  go_enter Tryz.func98, Tryz.ntmps98
  go_wp2_with fail
  refine HCK.out.mono ?_
  rintro e w1 ⟨rfl, hb⟩
  have HB1 := hidden (below_then HB.out HB.out.size hb)
  have ht1 := (hb.block (w.heap.size + 1) (by simp)).trans HT4.out
  have HT5 := hidden ((heap_alloc_old w1 (.cells #[.bool false, .int .u64 0, .int .u64 0, .int .u64 0, .int .u64 0, .int .u64 0, .int .u64 0, .int .u64 0, .int .u64 0] 83) (by have := (Array.getElem?_eq_some_iff.1 ht1).1; omega)).trans ht1)
  have HB2 := hidden (HB1.out.alloc (by have := HB1.out.size; omega) (.cells #[.bool false, .int .u64 0, .int .u64 0, .int .u64 0, .int .u64 0, .int .u64 0, .int .u64 0, .int .u64 0, .int .u64 0] 83))
  have hsz := HB1.out.size
  have hlw : w.heap.size + 1 < w1.heap.size := (Array.getElem?_eq_some_iff.1 ht1).1
  clear hb ht1
  dsimp only
  go_wp2_with (refine store_row (B := w.heap.size + 1) (cs := #[.bool false, .int .u64 0, .int .u64 0, .int .u64 0, .int .u64 0, .int .u64 0, .int .u64 0, .int .u64 0, .int .u64 0]) (old := #[.bool false, .int .u64 0, .int .u64 0, .int .u64 0, .int .u64 0, .int .u64 0, .int .u64 0, .int .u64 0, .int .u64 0]) (t := 83) rfl (ty := 83) (x := .tmp 4) (y := .tmp 15) rfl rfl rfl HT5.out 9 (by kernel_rfl) rfl rfl (by kernel_rfl) ?_; intro w2 hw2 hg2; have HL2 := hidden hw2; have HG2 := hidden hg2; clear hw2 hg2)
  exact ret_rch_tmp (l := ⟨false, fNone, fNone⟩) (v := .bool false) Tryz.results98 rfl rfl rfl (by unfold RchAt; simp only [word_zero]; exact HL2.out) ⟨by rw [← HVL.out], HB2.out.grown HG2.out (by simp; omega) (fun j e => by simp only [Option.some.injEq] at e; omega)⟩
set_option maxHeartbeats 8000000 in
set_option maxRecDepth 100000 in
theorem evalR_calls {C : Nat → Prop} {v0 : Value} {L : List Stp} {w : World} {NB PB base : Nat} (h : SlX C w v0 L) (hCb0 : ∀ b, C b → b < base) (hz : (measV L).2 = 0) (hwd : ∀ s ∈ L, s.wide) (hn : NEnv NB PB base [] (fun _ _ => false) w) (hpl : plc (treeE L) ≤ 256) :
    Calls Tryz.prog 98 #[v0, .agg #[.func (.func 99) #[.pointer (some ⟨NB, 0, none⟩)] #[], .func (.func 100) #[] #[], .func (.func 101) #[.pointer (some ⟨NB, 0, none⟩)] #[], .func (.func 102) #[] #[], .func (.func 103) #[] #[.pointer (some ⟨PB, 0, none⟩)], .func (.func 104) #[.pointer (some ⟨NB, 0, none⟩)] #[], .func (.func 105) #[] #[]]] w fun e w' => e = .returned (.tuple #[rchV (rch (treeE L) 0), .bool true]) ∧ NEnv NB PB base (setsE (treeE L)) (gE (treeE L) 0) w' ∧ Mv (fun k => k = NB) base w w' := by
  have hC : ∀ b, C b → b < w.heap.size := fun b hb => Nat.lt_of_lt_of_le (hCb0 b hb) hn.low
  have hNBw := hn.net.lt
  have hNBb := hn.over.2
  have hlow := hn.low
  obtain ⟨i0, hi, hz0, hz1, hz2⟩ := info_parts infoR
  obtain ⟨W, hW⟩ : ∃ W, W = (w.alloc (.cells #[.func (.func 99) #[.pointer (some ⟨NB, 0, none⟩)] #[], .func (.func 100) #[] #[], .func (.func 101) #[.pointer (some ⟨NB, 0, none⟩)] #[], .func (.func 102) #[] #[], .func (.func 103) #[] #[.pointer (some ⟨PB, 0, none⟩)], .func (.func 104) #[.pointer (some ⟨NB, 0, none⟩)] #[], .func (.func 105) #[] #[]] 118)).alloc (.cells #[.bool false, .int .u64 0, .int .u64 0, .int .u64 0, .int .u64 0, .int .u64 0, .int .u64 0, .int .u64 0, .int .u64 0] 83) := ⟨_, rfl⟩
  have hba : Below w.heap.size w W := by rw [hW]; exact ((Below.refl w.heap.size w).alloc (Nat.le_refl _) _).alloc (by simp) _
  have hWs : W.heap.size = w.heap.size + 2 := by rw [hW]; simp
  have hdo : W.heap[w.heap.size]? = some (.cells #[.func (.func 99) #[.pointer (some ⟨NB, 0, none⟩)] #[], .func (.func 100) #[] #[], .func (.func 101) #[.pointer (some ⟨NB, 0, none⟩)] #[], .func (.func 102) #[] #[], .func (.func 103) #[] #[.pointer (some ⟨PB, 0, none⟩)], .func (.func 104) #[.pointer (some ⟨NB, 0, none⟩)] #[], .func (.func 105) #[] #[]] 118) := by rw [hW]; exact heap_alloc2_old w _ _
  have ht4 : W.heap[w.heap.size + 1]? = some (.cells #[.bool false, .int .u64 0, .int .u64 0, .int .u64 0, .int .u64 0, .int .u64 0, .int .u64 0, .int .u64 0, .int .u64 0] 83) := by
    rw [hW]
    exact heap_alloc2_new w _ _
  have HNW := hidden (hn.below hba)
  have hsl := h.below (C' := fun b => b < w.heap.size) (w' := W) fun b hb => ⟨hC b hb, hba.block b (hC b hb)⟩
  have hCK := check_slX hsl fun b hb => by omega
  rw [hz, hW] at hCK
  have HCK := hidden hCK
  obtain ⟨m, hm, hm512⟩ := high_range hz
  have HHI := hidden (fun W2 (hb : Below W.heap.size W W2) => (show Calls Tryz.prog 79 #[v0] W2 fun e w' => e = .returned (.int .i64 (m : Int)) ∧ Below W2.heap.size W2 w' by
    have := high_slX (hsl.below (C' := fun b => b < W2.heap.size) (w' := W2) fun b hb' => ⟨by have := hb.size; omega, hb.block b (by omega)⟩) (fun b hb => hb)
    rw [hm] at this
    exact this))
  obtain ⟨h512, hE⟩ := meas_expr hz
  have hpos := expr_ne hE
  obtain ⟨hone, hok, _⟩ := tree_of hE hwd
  obtain ⟨a, cap, rfl, hl, hcap, _, hS⟩ := h
  obtain ⟨b, off, rfl, hCb, hc⟩ := hS.2 hpos
  have hbl := hC b hCb
  have hbb := hCb0 b hCb
  have HNX := hidden (fun k (hk : k < L.length) => next_of hk hE.1 hwd (forms_at hE.1 hwd k (by omega)))
  have HPL := hidden (fun k (hk : k ≤ L.length) => (show plcs (trees L k) ≤ 256 from by
    have hmono : ∀ d k, k + d = L.length → plcs (trees L k) ≤ plcs (trees L L.length) := fun d => by
      induction d with
      | zero => intro k e; rw [show k = L.length by omega]; exact Nat.le_refl _
      | succ d ih => intro k e; exact Nat.le_trans (next_plcs (HNX.out k (by omega)).1) (ih (k + 1) (by omega))
    have h1 := hmono (L.length - k) k (by omega)
    rw [hone] at h1
    simp only [plcs] at h1
    omega))
  have HFO := hidden (fun k (hk : k ≤ L.length) => forms_at hE.1 hwd k hk)
  have HCE := hidden (fun W2 (hW2 : Mv (fun k => k = NB ∨ w.heap.size + 2 ≤ k) base W W2) k (hk : k < L.length) => (hc k hk).kept (w' := W2) ((hW2.block b (by omega) (by rintro (h | h) <;> omega) (fun hr => by have := hr.1; omega)).trans (hba.block b hbl)))
  have HDO := hidden (fun W2 (hW2 : Mv (fun k => k = NB ∨ w.heap.size + 2 ≤ k) base W W2) => (show ∀ j v, (#[.func (.func 99) #[.pointer (some ⟨NB, 0, none⟩)] #[], .func (.func 100) #[] #[], .func (.func 101) #[.pointer (some ⟨NB, 0, none⟩)] #[], .func (.func 102) #[] #[], .func (.func 103) #[] #[.pointer (some ⟨PB, 0, none⟩)], .func (.func 104) #[.pointer (some ⟨NB, 0, none⟩)] #[], .func (.func 105) #[] #[]] : Array Value)[j]? = some v → W2.cell? ⟨w.heap.size, j, none⟩ = some v from fun j v hj =>
    (cell_of_row W2 _ j _ _ _ (hW2.at hdo (by rintro (h | h) <;> omega) (by decide))).trans hj))
  have HT4 := hidden (fun W2 (hW2 : Mv (fun k => k = NB ∨ w.heap.size + 2 ≤ k) base W W2) => hW2.at ht4 (by rintro (h | h) <;> omega) (by decide))
  have HONE := hidden hone
  have HBA := hidden hba
  have HTL := hidden (fun k (hk : k ≤ L.length) => (show (trees L k).length ≤ 512 from by
    obtain ⟨g1, g2⟩ := HFO.out k hk
    have h3 : ∀ es : List Ex, es.length ≤ (es.flatMap ops).length := fun es => by
      induction es with
      | nil => simp
      | cons e r ih =>
        have := ops_pos e
        simp only [List.flatMap_cons, List.length_append, List.length_cons]
        omega
    have h2 := h3 (trees L k)
    rw [g1, List.length_take] at h2
    omega))
  obtain ⟨n, hn_⟩ : ∃ n, n = L.length := ⟨_, rfl⟩
  rw [← hn_] at HNX HFO HCE HONE HTL HPL h512 hpos hl hCK HCK HHI ⊢
  obtain ⟨T, hT⟩ : ∃ T, T = trees L := ⟨_, rfl⟩
  rw [← hT] at HNX HFO HONE HTL HPL
  have HT0 := hidden (show T 0 = [] by rw [hT]; rfl)
  have HWD := hidden hW
  have HWS := hidden hWs
  clear hE hS hc hC hCb hCb0 hone hok hwd hn hn_ hT hcap hCK hsl hz hdo ht4 hba HFO hm hpl hWs
  go_enter Tryz.func98, Tryz.ntmps98
  clear hW
  go_wp2_with fail
  refine HCK.out.mono ?_
  rintro e w2 ⟨rfl, hb2⟩
  rw [← HWD.out] at hb2
  have HB2 := hidden hb2
  clear hb2
  go_wp2_with fail
  refine (HHI.out w2 HB2.out).mono ?_
  rintro e w3 ⟨rfl, hb3⟩
  have HB3 := hidden (below_after HB2.out hb3)
  clear hb3
  have hs3 : w.heap.size + 2 ≤ w3.heap.size := by rw [← HWS.out]; exact HB3.out.size
  go_wp2_with (at_make; refine wpList_make_own _ rfl _ _ 127 rfl (w.heap.size + 2) 83 i0 (.agg #[.bool false, .int .u64 0, .int .u64 0, .int .u64 0, .int .u64 0, .int .u64 0, .int .u64 0, .int .u64 0, .int .u64 0]) 9 Tryz.underlying127 hi hz0 hz1 _ _ _ m rfl rfl rfl ?b2 ?b3 hs3 ?_)
  case b2 => rw [hz2]; omega
  case b3 => unfold maxLen; omega
  intro w4 hown4 hgrow4
  have HSK := hidden (show StkR (w4.alloc (.cells #[.slice (some ⟨w3.heap.size, 0, none⟩) 0 m] 127)) w4.heap.size (w.heap.size + 2) w3.heap.size m (fRe (T 0) 0) by
    rw [HT0.out]
    exact ⟨Boxed.new w4 _ _, World.ownsRow.alloc hown4 _⟩)
  have hb4 : Below W.heap.size W w4 := HB3.out.grown hgrow4 (by rw [HWS.out]; exact hs3) (fun j e => by cases e)
  have hb4' := hb4.alloc (by have := hgrow4.size; rw [HWS.out]; omega) (.cells #[.slice (some ⟨w3.heap.size, 0, none⟩) 0 m] 127)
  have HB4 := hidden (show Mv (fun k => k = NB ∨ w.heap.size + 2 ≤ k) base W _ from .of_below hb4')
  have HN4 := hidden (show NEnv NB PB base (fSets (T 0)) (fE (T 0) 0) (w4.alloc (.cells #[.slice (some ⟨w3.heap.size, 0, none⟩) 0 m] 127)) by
    rw [HT0.out]
    exact HNW.out.below hb4')
  have hs4 : w.heap.size + 2 ≤ w4.heap.size := by have := hgrow4.size; omega
  clear hown4 hgrow4 hb4 hb4'
  go_wp2
  go_loopw [22] (fun i wr => ∃ k : Nat, k ≤ n ∧ i = .int .i64 k ∧ (∃ g cp, StkR wr w4.heap.size (w.heap.size + 2) g cp (fRe (T k) 0)) ∧ NEnv NB PB base (fSets (T k)) (fE (T k) 0) wr ∧ Mv (fun k => k = NB ∨ w.heap.size + 2 ≤ k) base W wr) (fun i _ => n - (intOf i).toNat)
  case atStart => exact ⟨0, by omega, rfl, ⟨_, _, HSK.out⟩, HN4.out, HB4.out⟩
  case round =>
    obtain ⟨k, hk, rfl, ⟨gr, cr, hst⟩, hne, hb⟩ := hrel
    have HST := hidden hst
    have HNE := hidden hne
    have HB := hidden hb
    clear hst hb hne
    by_cases hlt : k < n
    · obtain ⟨hnx, _⟩ := HNX.out k hlt
      have hTk := HTL.out k hk
      have hTk1 := HTL.out (k + 1) hlt
      obtain ⟨r, Y, hTY, hYl, hap⟩ := applyR_next hnx (by omega) (HPL.out (k + 1) hlt)
      have HTY := hidden hTY
      obtain ⟨c0, c1, c2, c3, c4⟩ := HCE.out wr HB.out k hlt
      have hd := HDO.out wr HB.out
      have d0 := hd 0 _ rfl
      have d1 := hd 1 _ rfl
      have d2 := hd 2 _ rfl
      have d3 := hd 3 _ rfl
      have d4 := hd 4 _ rfl
      have d5 := hd 5 _ rfl
      have d6 := hd 6 _ rfl
      generalize L.getD k default = s at *
      obtain ⟨kd, sa, sb, sc, sd⟩ := s
      have hbx := (Below.refl wr.heap.size wr).alloc (Nat.le_refl _) (.cells #[.int .i64 kd, .int .u64 sa, .int .u64 sb, .int .u64 sc, .int .u64 sd] 73)
      have HAP := hidden (hap _ _ NB PB base _ _ _ (by omega) (StkR.below HST.out hbx) (HNE.out.below hbx))
      have hsz1 := HB.out.size
      have hlw : w.heap.size < wr.heap.size := by have := HWS.out; omega
      have HBX := hidden (HB.out.trans (.of_below hbx))
      have hYY : (fRe Y 0).length ≤ 600 := by rw [fre_len]; omega
      have HYT := hidden (show fRe Y 0 ++ [rch r (plcs Y)] = fRe (T (k + 1)) 0 by rw [hTY, fRe_append, Nat.zero_add]; rfl)
      have HSE := hidden (show fSets (T (k + 1)) = fSets (T (k + 1)) from rfl)
      generalize rch r (plcs Y) = x at *
      generalize fRe Y 0 = X at *
      unfold Stp.val at HAP
      clear hd hap hTY hnx hbx hTk hYl
      go_wp2_with fail
      refine HAP.out.mono ?_
      rintro e w5 ⟨rfl, hs5, hn5, hm5⟩
      have hb5 : Mv (fun k => k = NB ∨ w.heap.size + 2 ≤ k) base W w5 := HBX.out.trans (hm5.mono fun k h => by rcases h with h | h; (rw [h]; exact .inr hs4); exact .inl h)
      have HB5 := hidden hb5
      obtain ⟨q1, q2⟩ := hs5
      have hcb := q1.cell
      have hfb := q1.frozen
      have Q1 := hidden ((q1.alloc (.cells #[.bool x.null, .int .u64 (word (x.first) 0), .int .u64 (word (x.first) 1), .int .u64 (word (x.first) 2), .int .u64 (word (x.first) 3), .int .u64 (word (x.last) 0), .int .u64 (word (x.last) 1), .int .u64 (word (x.last) 2), .int .u64 (word (x.last) 3)] 83)).alloc (.cells #[.bool x.null, .int .u64 (word (x.first) 0), .int .u64 (word (x.first) 1), .int .u64 (word (x.first) 2), .int .u64 (word (x.first) 3), .int .u64 (word (x.last) 0), .int .u64 (word (x.last) 1), .int .u64 (word (x.last) 2), .int .u64 (word (x.last) 3)] 83))
      have Q2 := hidden (World.ownsRow.alloc (World.ownsRow.alloc q2 (.cells #[.bool x.null, .int .u64 (word (x.first) 0), .int .u64 (word (x.first) 1), .int .u64 (word (x.first) 2), .int .u64 (word (x.first) 3), .int .u64 (word (x.last) 0), .int .u64 (word (x.last) 1), .int .u64 (word (x.last) 2), .int .u64 (word (x.last) 3)] 83)) (.cells #[.bool x.null, .int .u64 (word (x.first) 0), .int .u64 (word (x.first) 1), .int .u64 (word (x.first) 2), .int .u64 (word (x.first) 3), .int .u64 (word (x.last) 0), .int .u64 (word (x.last) 1), .int .u64 (word (x.last) 2), .int .u64 (word (x.last) 3)] 83))
      have hsz5 := HB5.out.size
      have hsW := HWS.out
      have hlb := q1.lt
      have hg5b := (q2.lt gr rfl).1
      have hg5l := (q2.lt gr rfl).2
      have HBA5 := hidden ((HB5.out.trans (Mv.alloc (.cells #[.bool x.null, .int .u64 (word (x.first) 0), .int .u64 (word (x.first) 1), .int .u64 (word (x.first) 2), .int .u64 (word (x.first) 3), .int .u64 (word (x.last) 0), .int .u64 (word (x.last) 1), .int .u64 (word (x.last) 2), .int .u64 (word (x.last) 3)] 83))).trans (Mv.alloc (.cells #[.bool x.null, .int .u64 (word (x.first) 0), .int .u64 (word (x.first) 1), .int .u64 (word (x.first) 2), .int .u64 (word (x.first) 3), .int .u64 (word (x.last) 0), .int .u64 (word (x.last) 1), .int .u64 (word (x.last) 2), .int .u64 (word (x.last) 3)] 83)))
      have HN5 := hidden ((hn5.alloc (.cells #[.bool x.null, .int .u64 (word (x.first) 0), .int .u64 (word (x.first) 1), .int .u64 (word (x.first) 2), .int .u64 (word (x.first) 3), .int .u64 (word (x.last) 0), .int .u64 (word (x.last) 1), .int .u64 (word (x.last) 2), .int .u64 (word (x.last) 3)] 83)).alloc (.cells #[.bool x.null, .int .u64 (word (x.first) 0), .int .u64 (word (x.first) 1), .int .u64 (word (x.first) 2), .int .u64 (word (x.first) 3), .int .u64 (word (x.last) 0), .int .u64 (word (x.last) 1), .int .u64 (word (x.last) 2), .int .u64 (word (x.last) 3)] 83))
      obtain ⟨nx, hnx⟩ : ∃ nx, nx = X.length := ⟨_, rfl⟩
      have HNXX := hidden hnx
      rw [← hnx] at hcb Q1 Q2 hYY
      clear hb5 q1 q2 hn5 hm5 hnx
      unfold rchV
      go_wp2_with (at_builtin; refine app_elem rfl _ _ rfl Tryz.underlying127 infoR rfl (by decide) (by decide) (base := w.heap.size + 2) (n := nx) (xs := X.flatMap rchC) (ys := rchC x) rfl Q2.out rfl (heap_alloc2_new w5 _ _) rfl (fun u hu => by simp [rchC] at hu; rcases hu with h | h | h | h | h | h | h | h | h <;> subst h <;> rfl) (by omega) (by simp; omega) ?_; intro g6 c6 w6 hown6 hgrow6; have HP := hidden (StkV.pushA Q1.out Q2.out (by decide) hgrow6 hown6); have hbx6 := (Q1.out.kept hgrow6 (Q1.out.not_row (by decide) Q2.out)); have hcb6 := hbx6.cell; have hfb6 := hbx6.frozen; have HN6 := hidden ((HN5.out.rowed Q2.out (by omega) hgrow6).other (b := w4.heap.size) (t := 127) hbx6 (by decide) (by decide) (by decide) (by omega) (gb_set w4.heap.size 0 (.slice (some ⟨g6, 0, none⟩) (nx + 1) c6))); have HB6 := hidden ((HBA5.out.trans (.grown (b := gr) hgrow6 (.inl (.inr (by omega))))).trans (.grown (gb_set w4.heap.size 0 (.slice (some ⟨g6, 0, none⟩) (nx + 1) c6)) (.inl (.inr (by omega))))); clear hown6 hgrow6 hbx6)
      go_wp2
      have hlt' := hlt
      go_roundw
      case rel =>
        refine ⟨k + 1, by omega, by go_num, ⟨g6, c6, ?_⟩, HN6.out, HB6.out⟩
        rw [← HYT.out]
        unfold StkR
        rw [List.length_append, List.flatMap_append, ← HNXX.out]
        have h := HP.out
        simpa using h
      case measure => simp [intOf]; omega
    · obtain rfl : k = n := by omega
      have hst := HST.out
      rw [HONE.out] at hst
      have HTA := hidden (takeR_calls (X := []) hst (by simp))
      have HBS := hidden hst
      have hsB := hst.1.lt
      clear hst
      go_wp2_with fail
      refine HTA.out.mono ?_
      rintro e w5 ⟨rfl, hs5, hg5⟩
      have hsz := HB.out.size
      have hsW := HWS.out
      have hb5 : Mv (fun k => k = NB ∨ w.heap.size + 2 ≤ k) base W w5 := HB.out.trans (.grown hg5 (.inl (.inr (by omega))))
      have HLA := hidden (HT4.out w5 hb5)
      have HB5 := hidden hb5
      have HN5 := hidden (HNE.out.took HBS.out (by omega) hg5)
      clear hs5 hg5 hb5
      generalize hx : rch (treeE L) 0 = x
      have HX := hidden hx
      clear hx
      unfold rchV
      dsimp only
      go_wp2_with (refine store_row (B := w.heap.size + 1) (cs := #[.bool x.null, .int .u64 (word (x.first) 0), .int .u64 (word (x.first) 1), .int .u64 (word (x.first) 2), .int .u64 (word (x.first) 3), .int .u64 (word (x.last) 0), .int .u64 (word (x.last) 1), .int .u64 (word (x.last) 2), .int .u64 (word (x.last) 3)]) (old := #[.bool false, .int .u64 0, .int .u64 0, .int .u64 0, .int .u64 0, .int .u64 0, .int .u64 0, .int .u64 0, .int .u64 0]) (t := 83) rfl (ty := 83) (x := .tmp 4) (y := .tmp 36) rfl rfl rfl HLA.out 9 (by kernel_rfl) rfl rfl (by kernel_rfl) ?_; intro w6 hw6 hg6; have HL6 := hidden hw6; have HG6 := hidden hg6; clear hw6 hg6)
      have hN6 := HN5.out.other HLA.out (by decide) (by decide) (by decide) (by omega) HG6.out
      rw [HONE.out] at hN6
      have hM : Mv (fun k => k = NB) base w w6 := by
        have h1 := HB5.out
        have h2 := HG6.out
        have h3 := HBA.out
        have hz1 := h1.size
        have hz3 := h3.size
        refine ⟨h2.os.trans (h1.os.trans h3.os), h2.tape.trans (h1.tape.trans h3.tape), h2.output.trans (h1.output.trans h3.output), Nat.le_trans h3.size (Nat.le_trans h1.size h2.size), fun i hi hx hr => ?_⟩
        have e1 := h3.block i hi
        exact ((h2.block i (by omega) (by simp; omega)).trans (h1.block i (by omega) (by rintro (h | h); exact hx h; omega) (fun hr' => hr ⟨hr'.1, by obtain ⟨cs, fr, e⟩ := hr'.2; exact ⟨cs, fr, e1.symm.trans e⟩⟩))).trans e1
      exact ret_rch_tmp (l := x) (v := .bool true) Tryz.results98 rfl rfl rfl HL6.out ⟨by rw [HX.out], hN6.as (by simp [fSets]) (by funext p q; simp [fE]), hM⟩
end Go.Proofs.YthkboclooplpeaaGreatDoor

/- newNet: the net of an expression. -/
namespace Go.Proofs.YthkboclooplpeaaGreatDoor
open Go.RowKit Go.Lib Go.Joins
attribute [local go_sem] evalR_tmp evalR_const evalR_global evalR_func
theorem results_tct {fn : Func} {p q u : Tmp} {ty : TypeId} (h : fn.results = #[.tmp p, .cell q ty, .tmp u]) (tmps : Array Value) (P : Program) (w : World) :
    (results fn tmps).run P w = ((asAddr (tmps.getD q undef)).run P w).andThen fun a w₁ => ((loadVar ty a).run P w₁).andThen fun v w₂ => .ok (.tuple #[tmps.getD p undef, v, tmps.getD u undef]) w₂ := by
  simp only [results, h]
  simp [Sem.run_bind, Result.andThen]
theorem ret_net {fn : Func} {R : Ending → World → Prop} {a : Act} {w : World} {B p q u : Nat} {l : Rch} {v1 v2 : Value} (hf : fn.results = #[.tmp p, .cell q 83, .tmp u]) (hq : a.tmps.getD q undef = .pointer (some ⟨B, 0, none⟩))
    (hp : a.tmps.getD p undef = v1) (hu : a.tmps.getD u undef = v2) (hd : a.defers = []) (hS : RchAt w B l) (hR : R (.returned (.tuple #[v1, rchV l, v2])) w) : bodyPost Tryz.prog fn R .ret a w := by
  refine bodyPost_ret ?_ hd hR
  rw [results_tct hf, hq]
  simp only [asAddr, Sem.run_pure, Result.andThen]
  rw [run_loadVar_row w B 83 83 _ (0, 0) _ hS Tryz.underlying83 rfl (by kernel_rfl)]
  simp only [hp, hu]
  rfl
theorem drew_cell (w : World) (a : Addr) : (World.drew w).cell? a = w.cell? a := rfl
theorem net_new (w : World) (ht : Tab w) : NEnv (w.heap.size + 1) (w.heap.size + 2) w.heap.size [] (fun _ _ => false) (((w.alloc (.cells #[.bool false, .int .u64 0, .int .u64 0, .int .u64 0, .int .u64 0, .int .u64 0, .int .u64 0, .int .u64 0, .int .u64 0] 83)).alloc (.cells #[.slice none 0 0, .slice none 0 0] 110)).alloc (.cells #[.pointer (some ⟨w.heap.size + 1, 0, none⟩)] 81)) := by
  have hs1 : (w.alloc (.cells #[.bool false, .int .u64 0, .int .u64 0, .int .u64 0, .int .u64 0, .int .u64 0, .int .u64 0, .int .u64 0, .int .u64 0] 83)).heap.size = w.heap.size + 1 := by simp
  have h2 := (heap_alloc_old ((w.alloc (.cells #[.bool false, .int .u64 0, .int .u64 0, .int .u64 0, .int .u64 0, .int .u64 0, .int .u64 0, .int .u64 0, .int .u64 0] 83)).alloc (.cells #[.slice none 0 0, .slice none 0 0] 110)) (.cells #[.pointer (some ⟨w.heap.size + 1, 0, none⟩)] 81) (r := w.heap.size + 1) (by simp)).trans (heap_alloc2_new w (.cells #[.bool false, .int .u64 0, .int .u64 0, .int .u64 0, .int .u64 0, .int .u64 0, .int .u64 0, .int .u64 0, .int .u64 0] 83) (.cells #[.slice none 0 0, .slice none 0 0] 110))
  have h3 := heap_alloc2_new (w.alloc (.cells #[.bool false, .int .u64 0, .int .u64 0, .int .u64 0, .int .u64 0, .int .u64 0, .int .u64 0, .int .u64 0, .int .u64 0] 83)) (.cells #[.slice none 0 0, .slice none 0 0] 110) (.cells #[.pointer (some ⟨w.heap.size + 1, 0, none⟩)] 81)
  rw [hs1] at h3
  have hb := (((Below.refl w.heap.size w).alloc (Nat.le_refl _) (.cells #[.bool false, .int .u64 0, .int .u64 0, .int .u64 0, .int .u64 0, .int .u64 0, .int .u64 0, .int .u64 0, .int .u64 0] 83)).alloc (by simp) (.cells #[.slice none 0 0, .slice none 0 0] 110)).alloc (by simp; omega) (.cells #[.pointer (some ⟨w.heap.size + 1, 0, none⟩)] 81)
  have htl := cell_lt (ht 0 (by decide))
  exact ⟨⟨_, _, h2, ⟨rfl, .inl ⟨rfl, rfl⟩⟩, ⟨rfl, .inl ⟨rfl, rfl⟩⟩, .inl rfl⟩, h3, ht.below hb, by simp; omega, by simp, htl, by omega⟩
/-- what newNet tells -/
def rchF (L : List Stp) : Rch := if (measV L).2 = 0 then rch (treeE L) 0 else ⟨false, fNone, fNone⟩
theorem expr_plc {L : List Stp} (hz : (measV L).2 = 0) (hwd : ∀ s ∈ L, s.wide) : plc (treeE L) ≤ 256 := by
  obtain ⟨h512, hE⟩ := meas_expr hz
  have h1 := plc_ops (treeE L)
  have h2 : (ops (treeE L)).length = L.length := by
    have hf := (forms_at hE.1 hwd L.length (Nat.le_refl _)).1
    obtain ⟨hone, _, _⟩ := tree_of hE hwd
    rw [hone] at hf
    simp only [List.flatMap_cons, List.flatMap_nil, List.append_nil] at hf
    rw [hf, List.length_take]
    omega
  omega
theorem evalR_any {C : Nat → Prop} {v0 : Value} {L : List Stp} {w : World} (h : SlX C w v0 L) (hC : ∀ b, C b → b < w.heap.size) (hwd : ∀ s ∈ L, s.wide) (ht : Tab w) :
    Calls Tryz.prog 98 #[v0, .agg #[.func (.func 99) #[.pointer (some ⟨w.heap.size + 1, 0, none⟩)] #[], .func (.func 100) #[] #[], .func (.func 101) #[.pointer (some ⟨w.heap.size + 1, 0, none⟩)] #[], .func (.func 102) #[] #[], .func (.func 103) #[] #[.pointer (some ⟨w.heap.size + 2, 0, none⟩)], .func (.func 104) #[.pointer (some ⟨w.heap.size + 1, 0, none⟩)] #[], .func (.func 105) #[] #[]]] (((w.alloc (.cells #[.bool false, .int .u64 0, .int .u64 0, .int .u64 0, .int .u64 0, .int .u64 0, .int .u64 0, .int .u64 0, .int .u64 0] 83)).alloc (.cells #[.slice none 0 0, .slice none 0 0] 110)).alloc (.cells #[.pointer (some ⟨w.heap.size + 1, 0, none⟩)] 81)) fun e w' => e = .returned (.tuple #[rchV (rchF L), .bool (decide ((measV L).2 = 0))]) ∧ ((measV L).2 = 0 → NetAt w' (w.heap.size + 1) w.heap.size (setsE (treeE L)) (gE (treeE L) 0)) ∧ w'.heap[w.heap.size]? = some (.cells #[.bool false, .int .u64 0, .int .u64 0, .int .u64 0, .int .u64 0, .int .u64 0, .int .u64 0, .int .u64 0, .int .u64 0] 83) ∧ w'.cell? ⟨w.heap.size + 2, 0, none⟩ = some (.pointer (some ⟨w.heap.size + 1, 0, none⟩)) ∧ Below w.heap.size w w' := by
  have hn := net_new w ht
  have hb := (((Below.refl w.heap.size w).alloc (Nat.le_refl _) (.cells #[.bool false, .int .u64 0, .int .u64 0, .int .u64 0, .int .u64 0, .int .u64 0, .int .u64 0, .int .u64 0, .int .u64 0] 83)).alloc (by simp) (.cells #[.slice none 0 0, .slice none 0 0] 110)).alloc (by simp; omega) (.cells #[.pointer (some ⟨w.heap.size + 1, 0, none⟩)] 81)
  have hsl := h.below (C' := C) (w' := (((w.alloc (.cells #[.bool false, .int .u64 0, .int .u64 0, .int .u64 0, .int .u64 0, .int .u64 0, .int .u64 0, .int .u64 0, .int .u64 0] 83)).alloc (.cells #[.slice none 0 0, .slice none 0 0] 110)).alloc (.cells #[.pointer (some ⟨w.heap.size + 1, 0, none⟩)] 81))) fun b hb' => ⟨hb', hb.block b (hC b hb')⟩
  have h0 : (((w.alloc (.cells #[.bool false, .int .u64 0, .int .u64 0, .int .u64 0, .int .u64 0, .int .u64 0, .int .u64 0, .int .u64 0, .int .u64 0] 83)).alloc (.cells #[.slice none 0 0, .slice none 0 0] 110)).alloc (.cells #[.pointer (some ⟨w.heap.size + 1, 0, none⟩)] 81)).heap[w.heap.size]? = some (.cells #[.bool false, .int .u64 0, .int .u64 0, .int .u64 0, .int .u64 0, .int .u64 0, .int .u64 0, .int .u64 0, .int .u64 0] 83) := (heap_alloc_old _ _ (by simp; omega)).trans (heap_alloc2_old w _ _)
  unfold rchF
  by_cases hz : (measV L).2 = 0
  · rw [if_pos hz, decide_eq_true hz]
    refine (evalR_calls hsl hC hz hwd hn (expr_plc hz hwd)).mono fun e w' ⟨h1, h2, h3⟩ => ⟨h1, fun _ => h2.net, h3.at h0 (by simp) (by decide), cell_of_row _ _ 0 _ _ _ h2.ptr, h3.below hb (Nat.le_refl _) (by simp; omega) (fun k hk => by omega)⟩
  · rw [if_neg hz, decide_eq_false hz]
    refine (evalR_none (NB := w.heap.size + 1) (PB := w.heap.size + 2) hsl (fun b hb' => by have := hC b hb'; simp; omega) hz).mono fun e w' ⟨h1, h2⟩ => ⟨h1, fun hc => absurd hc hz, (h2.block _ (by simp; omega)).trans h0, cell_of_row _ _ 0 _ _ _ ((h2.block _ (by simp)).trans hn.ptr), below_then hb (by simp; omega) h2⟩
set_option maxHeartbeats 8000000 in
set_option maxRecDepth 100000 in
theorem newNet_calls {C : Nat → Prop} {v0 : Value} {L : List Stp} {w : World} (h : SlX C w v0 L) (hC : ∀ b, C b → b < w.heap.size) (hwd : ∀ s ∈ L, s.wide) (ht : Tab w) :
    Calls Tryz.prog 71 #[v0] w fun e w' => e = .returned (.tuple #[.pointer (some ⟨w.heap.size + 1, 0, none⟩), rchV (rchF L), .bool (decide ((measV L).2 = 0))]) ∧ ((measV L).2 = 0 → NetAt w' (w.heap.size + 1) w.heap.size (setsE (treeE L)) (gE (treeE L) 0)) ∧ Below w.heap.size w w' := by
  have HE := hidden (evalR_any h hC hwd ht)
  obtain ⟨av, cv, rfl, _⟩ := h
  generalize hx : rchF L = x at *
  generalize hok : decide ((measV L).2 = 0) = ok at *
  clear hx hok ht
  go_enter Tryz.func71, Tryz.ntmps71
  go_wp2_with fail
  refine HE.out.mono ?_
  rintro e w1 ⟨rfl, hN1, h01, hp1, hb1⟩
  have HN1 := hidden hN1
  have HB1 := hidden (hb1.alloc (by have := hb1.size; omega) (.cells #[.bool x.null, .int .u64 (word (x.first) 0), .int .u64 (word (x.first) 1), .int .u64 (word (x.first) 2), .int .u64 (word (x.first) 3), .int .u64 (word (x.last) 0), .int .u64 (word (x.last) 1), .int .u64 (word (x.last) 2), .int .u64 (word (x.last) 3)] 83)).drew
  have h0lt := (Array.getElem?_eq_some_iff.1 h01).1
  have H01 := hidden ((heap_alloc_old w1 (.cells #[.bool x.null, .int .u64 (word (x.first) 0), .int .u64 (word (x.first) 1), .int .u64 (word (x.first) 2), .int .u64 (word (x.first) 3), .int .u64 (word (x.last) 0), .int .u64 (word (x.last) 1), .int .u64 (word (x.last) 2), .int .u64 (word (x.last) 3)] 83) h0lt).trans h01)
  have hp1' : w1.cell? ⟨w.heap.size + 1 + 1, 0, none⟩ = some (.pointer (some ⟨w.heap.size + 1, 0, none⟩)) := hp1
  have hp1lt : w.heap.size + 1 + 1 < w1.heap.size := cell_lt hp1
  clear hp1
  have HNB := hidden hN1
  have hsz := hb1.size
  clear hN1 hb1 h01
  unfold rchV
  go_wp2
  have hla : RchAt (w1.alloc (.cells #[.bool x.null, .int .u64 (word (x.first) 0), .int .u64 (word (x.first) 1), .int .u64 (word (x.first) 2), .int .u64 (word (x.first) 3), .int .u64 (word (x.last) 0), .int .u64 (word (x.last) 1), .int .u64 (word (x.last) 2), .int .u64 (word (x.last) 3)] 83)) w.heap.size ⟨false, fNone, fNone⟩ := by
    unfold RchAt
    simp only [word_zero]
    exact H01.out
  have hlx : RchAt (w1.alloc (.cells #[.bool x.null, .int .u64 (word (x.first) 0), .int .u64 (word (x.first) 1), .int .u64 (word (x.first) 2), .int .u64 (word (x.first) 3), .int .u64 (word (x.last) 0), .int .u64 (word (x.last) 1), .int .u64 (word (x.last) 2), .int .u64 (word (x.last) 3)] 83)) w1.heap.size x := heap_alloc_new w1 _
  have hpp : (w1.alloc (.cells #[.bool x.null, .int .u64 (word (x.first) 0), .int .u64 (word (x.first) 1), .int .u64 (word (x.first) 2), .int .u64 (word (x.first) 3), .int .u64 (word (x.last) 0), .int .u64 (word (x.last) 1), .int .u64 (word (x.last) 2), .int .u64 (word (x.last) 3)] 83)).cell? ⟨w.heap.size + 1 + 1, 0, none⟩ = some (.pointer (some ⟨w.heap.size + 1, 0, none⟩)) := (World.cell?_of_block (heap_alloc_old w1 _ hp1lt)).trans hp1'
  have HN5 := hidden (fun hz => (HN1.out hz).below ((Below.refl _ _).alloc (Nat.le_refl _) (.cells #[.bool x.null, .int .u64 (word (x.first) 0), .int .u64 (word (x.first) 1), .int .u64 (word (x.first) 2), .int .u64 (word (x.first) 3), .int .u64 (word (x.last) 0), .int .u64 (word (x.last) 1), .int .u64 (word (x.last) 2), .int .u64 (word (x.last) 3)] 83)))
  have HB5 := hidden HB1.out
  have H05 := hidden H01.out
  have hp2lt := hp1lt
  clear hp1' h0lt HN1 HNB HB1 H01 hla
  generalize w1.alloc (.cells #[.bool x.null, .int .u64 (word (x.first) 0), .int .u64 (word (x.first) 1), .int .u64 (word (x.first) 2), .int .u64 (word (x.first) 3), .int .u64 (word (x.last) 0), .int .u64 (word (x.last) 1), .int .u64 (word (x.last) 2), .int .u64 (word (x.last) 3)] 83) = w5 at *
  have hb6 : w.heap.size < w1.heap.size := by omega
  generalize w1.heap.size = b6 at *
  have hla : RchAt w5 w.heap.size ⟨false, fNone, fNone⟩ := by
    unfold RchAt
    simp only [word_zero]
    exact H05.out
  have HLA := hidden hla
  have hne : b6 ≠ w.heap.size := fun e => by omega
  have HS0 := hidden (show (fun w' : World => w'.cell? ⟨w.heap.size + 1 + 1, 0, none⟩ = some (.pointer (some ⟨w.heap.size + 1, 0, none⟩)) ∧ w'.cell? ⟨b6, 0, none⟩ = some (.bool x.null) ∧ w'.cell? ⟨b6, 1, none⟩ = some (.int .u64 (word x.first 0)) ∧ w'.cell? ⟨b6, 2, none⟩ = some (.int .u64 (word x.first 1)) ∧ w'.cell? ⟨b6, 3, none⟩ = some (.int .u64 (word x.first 2)) ∧ w'.cell? ⟨b6, 4, none⟩ = some (.int .u64 (word x.first 3)) ∧ w'.cell? ⟨b6, 5, none⟩ = some (.int .u64 (word x.last 0)) ∧ w'.cell? ⟨b6, 6, none⟩ = some (.int .u64 (word x.last 1)) ∧ w'.cell? ⟨b6, 7, none⟩ = some (.int .u64 (word x.last 2)) ∧ w'.cell? ⟨b6, 8, none⟩ = some (.int .u64 (word x.last 3))) (World.drew w5) from ⟨hpp, hlx.cells⟩)
  have HS1 := hidden (show (fun w' : World => w'.cell? ⟨w.heap.size + 1 + 1, 0, none⟩ = some (.pointer (some ⟨w.heap.size + 1, 0, none⟩)) ∧ w'.cell? ⟨b6, 0, none⟩ = some (.bool x.null) ∧ w'.cell? ⟨b6, 1, none⟩ = some (.int .u64 (word x.first 0)) ∧ w'.cell? ⟨b6, 2, none⟩ = some (.int .u64 (word x.first 1)) ∧ w'.cell? ⟨b6, 3, none⟩ = some (.int .u64 (word x.first 2)) ∧ w'.cell? ⟨b6, 4, none⟩ = some (.int .u64 (word x.first 3)) ∧ w'.cell? ⟨b6, 5, none⟩ = some (.int .u64 (word x.last 0)) ∧ w'.cell? ⟨b6, 6, none⟩ = some (.int .u64 (word x.last 1)) ∧ w'.cell? ⟨b6, 7, none⟩ = some (.int .u64 (word x.last 2)) ∧ w'.cell? ⟨b6, 8, none⟩ = some (.int .u64 (word x.last 3))) (World.drew (((((((((w5.setCell ⟨w.heap.size, 0, none⟩ (.bool x.null)).setCell ⟨w.heap.size, 1, none⟩ (.int .u64 (word x.first 0))).setCell ⟨w.heap.size, 2, none⟩ (.int .u64 (word x.first 1))).setCell ⟨w.heap.size, 3, none⟩ (.int .u64 (word x.first 2))).setCell ⟨w.heap.size, 4, none⟩ (.int .u64 (word x.first 3))).setCell ⟨w.heap.size, 5, none⟩ (.int .u64 (word x.last 0))).setCell ⟨w.heap.size, 6, none⟩ (.int .u64 (word x.last 1))).setCell ⟨w.heap.size, 7, none⟩ (.int .u64 (word x.last 2))).setCell ⟨w.heap.size, 8, none⟩ (.int .u64 (word x.last 3)))) from ⟨(drew_cell _ _).trans (((rch_gb (b := w.heap.size) w5 x).cell_far ⟨w.heap.size + 1 + 1, 0, none⟩ (show w.heap.size + 1 + 1 < w5.heap.size from cell_lt hpp) (by simp; omega)).trans hpp), ((RchAt.other (show RchAt w5 b6 x from hlx) (rch_gb w5 x) hne).below (Below.refl _ _).drew).cells⟩)
  have HN7 := hidden HN5.out
  have HB7 := hidden (show Below w.heap.size w w5 from ⟨HB5.out.os, HB5.out.tape, HB5.out.output, HB5.out.size, HB5.out.block⟩)
  obtain ⟨c0, c1, c2, c3, c4, c5, c6, c7, c8⟩ := hla.cells
  have f0 := hla.frozen 0
  have f1 := hla.frozen 1
  have f2 := hla.frozen 2
  have f3 := hla.frozen 3
  have f4 := hla.frozen 4
  have f5 := hla.frozen 5
  have f6 := hla.frozen 6
  have f7 := hla.frozen 7
  have f8 := hla.frozen 8
  clear hla hlx hpp HN5 HB5 H05
  go_region_held3 (fun w' => w'.cell? ⟨w.heap.size + 1 + 1, 0, none⟩ = some (.pointer (some ⟨w.heap.size + 1, 0, none⟩)) ∧ w'.cell? ⟨b6, 0, none⟩ = some (.bool x.null) ∧ w'.cell? ⟨b6, 1, none⟩ = some (.int .u64 (word x.first 0)) ∧ w'.cell? ⟨b6, 2, none⟩ = some (.int .u64 (word x.first 1)) ∧ w'.cell? ⟨b6, 3, none⟩ = some (.int .u64 (word x.first 2)) ∧ w'.cell? ⟨b6, 4, none⟩ = some (.int .u64 (word x.first 3)) ∧ w'.cell? ⟨b6, 5, none⟩ = some (.int .u64 (word x.last 0)) ∧ w'.cell? ⟨b6, 6, none⟩ = some (.int .u64 (word x.last 1)) ∧ w'.cell? ⟨b6, 7, none⟩ = some (.int .u64 (word x.last 2)) ∧ w'.cell? ⟨b6, 8, none⟩ = some (.int .u64 (word x.last 3))) (first | with_reducible exact HS0.out | with_reducible exact HS1.out) (fail)
  go_wp2
  exact ret_net (l := x) (v1 := .pointer (some ⟨w.heap.size + 1, 0, none⟩)) (v2 := .bool ok) Tryz.results71 rfl rfl rfl rfl ((RchAt.stored HLA.out x).below (Below.refl _ _).drew) ⟨rfl, fun hz => ((HN7.out hz).other HLA.out (by decide) (by decide) (rch_gb _ x)).below (Below.refl _ _).drew, (HB7.out.grown (rch_gb _ x) (by have := HB7.out.size; omega) (fun j e => by simp only [Option.some.injEq] at e; omega)).drew⟩
end Go.Proofs.YthkboclooplpeaaGreatDoor
