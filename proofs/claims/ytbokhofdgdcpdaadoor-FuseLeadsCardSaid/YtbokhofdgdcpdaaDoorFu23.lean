/- FuHas, FuAdd, FuFuse, put together. -/
import Derived.Test.YtbokhofdgdcpdaaDoorFu17
import Derived.Test.YtbokhofdgdcpdaaDoorShelf
import Derived.Test.YtbokhofdgdcpdaaDoorFu22
import Derived.Deep.RegionLaw
import Derived.Deep.Cut
import Derived.Deep.CutRange
/- Contract of Has. -/
namespace Go.Proofs.YtbokhofdgdcpdaaDoor
open Go.RowKit Go.Lib Go.Joins

theorem RdZ.nums {B : Nat} {w : World} {a : Option Addr} {n c : Nat} {l : List Int} (h : RdZ B w (.slice a n c) l) : n = l.length ∧ l.length ≤ c ∧ c ≤ maxLen ∧ (0 < l.length → ∃ b off, a = some ⟨b, off, none⟩ ∧ b < B ∧ ∀ i, i < l.length → w.cell? ⟨b, off + i, none⟩ = some (.int .i64 (l.getD i 0))) := by
  obtain ⟨a', c', e, h1, h2, _, h4⟩ := h
  simp only [Value.slice.injEq] at e
  obtain ⟨rfl, rfl, rfl⟩ := e
  exact ⟨rfl, h1, h2, h4⟩
theorem below_drawnN (w : World) (q : Nat) : Below w.heap.size w (w.drewN q) := below_drawn (Below.refl _ _) q
set_option maxRecDepth 100000 in
theorem has_calls {B : Nat} (w : World) (v : Value) (l : List Int) (n : Int) (h : RdZ B w v l) (hu : Up l) (hl : l.length ≤ 100000) : Calls Tryd.prog 89 #[v, .int .i64 n] w fun e w' => e = .returned (.bool (decide (n ∈ l))) ∧ Below w.heap.size w w' := by
  obtain ⟨a, cap, rfl⟩ := h.form
  obtain ⟨_, h1, h2, h4⟩ := h.nums
  by_cases h0 : l.length = 0
  · have HE := hidden (show decide (n ∈ l) = false by rw [List.eq_nil_of_length_eq_zero h0]; simp)
    rw [h0]
    clear h4 h h1
    go_enter Tryd.func89, Tryd.ntmps89
    go_wp2_with fail
    refine (Go.Proofs.Tryd.slices_BinarySearch_int_empty _ _ _ _).mono ?_
    rintro e w1 ⟨rfl, rfl⟩
    go_wp2
    go_ret
    exact ⟨ret_b HE.out.symm, Below.refl _ _⟩
  · obtain ⟨b, off, rfl, hlt, hc⟩ := h4 (by omega)
    have HC := hidden (Go.Proofs.Tryd.slices_BinarySearch_int b off l.length cap l n w (Nat.le_refl _) (by omega) hc (by rw [List.take_of_length_le (Nat.le_refl _)]; exact List.Pairwise.imp (fun h => by omega) hu))
    rw [List.take_of_length_le (Nat.le_refl _)] at HC
    have HE := hidden (show l.contains n = decide (n ∈ l) by simp)
    obtain ⟨m, hm⟩ : ∃ m, m = l.length := ⟨_, rfl⟩
    rw [← hm] at HC ⊢
    generalize l.contains n = cb at *
    generalize l.countP (· < n) = cp at *
    clear h4 h h1 hc hm h0 hl
    go_enter Tryd.func89, Tryd.ntmps89
    go_wp2_with fail
    refine HC.out.mono ?_
    rintro e w1 ⟨rfl, q, rfl⟩
    go_wp2
    go_ret
    exact ⟨ret_b HE.out, below_drawnN _ _⟩
end Go.Proofs.YtbokhofdgdcpdaaDoor

/- Contract of add. -/
namespace Go.Proofs.YtbokhofdgdcpdaaDoor
open Go.RowKit Go.Lib Go.Joins
theorem sp_le (f : Nat → Bool) : (spI (elems f)).length ≤ 256 := by rw [spI_len]; exact elems_le f
theorem sp_up (f : Nat → Bool) : Up (spI (elems f)) := by
  unfold spI Up
  rw [List.pairwise_map]
  exact (elems_up f).imp fun h => by omega
set_option maxHeartbeats 8000000 in
set_option maxRecDepth 100000 in
theorem add_calls {w : World} {NB base : Nat} {vs vo vl vf v1 : Value} {us : List Value} {N : NetM} (hN : NetW w NB base vs vo vl vf v1 us N) (hB : base ≤ NB) {C : Nat → Prop} {v0 : Value} {L : List Stp} (h : SlX C w v0 L) (hC : ∀ b, C b → b < base) (hwd : ∀ s ∈ L, s.wide) (hl : L.length ≤ 100)
    (hs : N.sets.length ≤ 10000) (ho : N.of.length ≤ 10000) (hla : N.last.length ≤ 10000) (hf : N.fol.length ≤ 10000) (h1 : N.first.length ≤ 10000) (token : Int) (ht : Tab w) (hgb : 0 < base) :
    Calls Tryd.prog 63 #[.pointer (some ⟨NB, 0, none⟩), .int .i64 token, v0] w fun e w' => e = .returned undef ∧ Below base w w' ∧ ∃ vs vo vl vf v1 us, NetW w' NB base vs vo vl vf v1 us (addM N token L) := by
  have HN := hidden hN
  have HNB := hidden hB
  have HB := hidden (show base ≤ w.heap.size from Nat.le_trans hB (Nat.le_of_lt hN.own.lt))
  have HC := hidden hC
  have HV := hidden h
  have HT := hidden ht
  have HGB := hidden hgb
  have HLK := hidden (And.intro hs (And.intro ho (And.intro hla (And.intro hf h1))))
  obtain ⟨av, cv, rfl, _⟩ := h
  have HL := hidden hl
  have HWD := hidden hwd
  have HSL := hidden (setsL_len L)
  obtain ⟨as0, cs0, rfl⟩ := (show ∃ a c, vs = .slice a N.sets.length c from (by obtain ⟨a, c, e, _⟩ := hN.rowS.reads; exact ⟨a, c, e⟩))
  obtain ⟨k0, k1, k2, k3, k4⟩ := hN.cells
  clear hN hC ht hB hwd hgb hs ho hla hf h1 hl
  go_enter Tryd.func63, Tryd.ntmps63
  go_wp2_with fail
  refine (spsets_calls HV.out (fun b hb => Nat.lt_of_lt_of_le (HC.out b hb) HB.out) (by have := HL.out; omega)).mono ?_
  rintro e w1 ⟨v1s, rfl, hr1, hb1⟩
  have HB1 := hidden hb1
  have HN1 := hidden (HN.out.kept hb1)
  have HR1 := hidden hr1
  have HV1 := hidden (HV.out.below (C' := C) (w' := w1) fun b hb => ⟨hb, hb1.block b (Nat.lt_of_lt_of_le (HC.out b hb) HB.out)⟩)
  have HT1 := hidden (HT.out.below hb1)
  have HB1b := hidden (Nat.le_trans HB.out hb1.size)
  obtain ⟨a1, c1, hv1⟩ := rowS_slice2 hr1
  subst hv1
  clear hr1 hb1
  go_wp2_with fail
  refine (spLast_calls HV1.out (fun b hb => Nat.lt_of_lt_of_le (HC.out b hb) HB1b.out) (HWD.out) HT1.out).mono ?_
  rintro e w2 ⟨v2, rfl, hr2, hb2⟩
  have HB2 := hidden (below_after HB1.out hb2)
  have hN2 := HN1.out.kept hb2
  have HN2 := hidden hN2
  have HE2 := hidden (HN1.out.fresh hr2 (Nat.le_refl _))
  have HR1b := hidden (HR1.out.kept hb2)
  obtain ⟨a2, c2, hv2⟩ := hr2.form
  subst hv2
  obtain ⟨j0, j1, j2, j3, j4⟩ := hN2.cells
  have hob := hN2.obj
  have HI := hidden infoS
  have HB2b := hidden (Nat.le_trans HB1b.out hb2.size)
  have hz1 : ∀ u ∈ (setsL L).flatMap setC, u.oneCell' = true := setC_one (setsL L)
  have hz2 := flat4 (setsL L)
  have hz3 : N.sets.length + (setsL L).length ≤ 1000000 := by have := HL.out; have := HSL.out; have := HLK.out.1; omega
  have HZ := hidden (And.intro hz1 (And.intro hz2 hz3))
  clear hr2 hb2 hN2 hz1 hz2 hz3 k0 k1 k2 k3 k4
  go_wp2_with (at_builtin; refine wpList_app rfl _ _ rfl HI.out Tryd.underlying24 rfl (by decide) (by decide) rfl HN2.out.rowS rfl (Src.row HR1b.out) HZ.out.2.1 HZ.out.1 HZ.out.2.2 HB2b.out ?_; intro v3 w3 hA; have HA3 := hidden hA; obtain ⟨a3, c3, hv3⟩ := row_slice hA.own; subst hv3; have hob3 := HN2.out.still hA.grown HN2.out.apartS; have l0 := cell_of_row w3 NB 0 _ _ _ hob3; have hfz := frozen_row hob3 0; clear hA hob3 j0 j1 j2 j3 j4 hob)
  have HS3 := hidden (StN.putS HN2.out HE2.out (HB2.out.mono HB.out) HNB.out HB2b.out HA3.out)
  clear l0 hfz
  generalize w3.setCell ⟨NB, 0, none⟩ (.slice a3 (N.sets.length + (setsL L).length) c3) = w4 at *
  go_cut [] from 28 to 39 (fun wx => StN w NB base (.slice a2 (spI (elems (prtL L).last)).length c2) (spI (elems (prtL L).last)) (addK N token L 0) wx)
  case first =>
    obtain ⟨qs, qo, ql, qf, q1, qus, hN4, hE4, hB4⟩ := HS3.out
    have HB4 := hidden hB4.drew
    have HN4 := hidden (hN4.kept (w' := w4.drew) (Below.refl _ _).drew)
    have HE4 := hidden (far_kept hE4 (w' := w4.drew) (Below.refl _ _).drew)
    have HV4 := hidden (HV.out.below (C' := C) (w' := w4.drew) fun b hb => ⟨hb, HB4.out.block b (HC.out b hb)⟩)
    have HT4 := hidden (HT.out.low HB4.out HGB.out)
    have HB4b := hidden (show base ≤ w4.drew.heap.size from Nat.le_trans HB.out HB4.out.size)
    obtain ⟨a5, c5, rfl⟩ := hN4.row1.form
    obtain ⟨m0, m1, m2, m3, m4⟩ := HN4.out.cells
    have HI5 := hidden infoInt
    have HL1 := hidden (sp_le (prtL L).first)
    clear hB4 hN4 hE4 m0 m1 m2 m3
    go_region_law (first
      | (go_simp; refine (spFirst_calls HV4.out (fun b hb => Nat.lt_of_lt_of_le (HC.out b hb) HB4b.out) HWD.out HT4.out).mono ?_;
         rintro e w5 ⟨v5, rfl, hr5, hb5⟩; have HR5 := hidden hr5; have HB5 := hidden hb5; have hn5 := HN4.out.kept hb5; have HN5 := hidden hn5; have HE5 := hidden (far_kept HE4.out hb5); obtain ⟨p0, p1, p2, p3, p4⟩ := hn5.cells; obtain ⟨a6, c6, hv6⟩ := hr5.form; subst hv6; clear hr5 hb5 hn5 p0 p1 p2 p3; dsimp only)
      | (go_simp; refine (moved_calls (N.sets.length : Int) HR5.out.reads (by have := HL1.out; omega)).mono ?_;
         rintro e w6 ⟨v7, rfl, hr7, hb7⟩; have HR7 := hidden hr7; have HB7 := hidden hb7; have hn7 := HN5.out.kept hb7; have HN7 := hidden hn7; have HE7 := hidden (far_kept HE5.out hb7); obtain ⟨p0, p1, p2, p3, q4⟩ := hn7.cells; obtain ⟨a8, c8, hv8⟩ := hr7.form; subst hv8; have HB7x := hidden (below_then (below_then HB4.out HB4b.out HB5.out) (Nat.le_trans HB4b.out HB5.out.size) hb7); have HB7b := hidden (Nat.le_trans HB.out HB7x.out.size); clear hr7 hb7 hn7 p0 p1 p2 p3; dsimp only)
      | (refine step_app rfl _ _ rfl HI5.out Tryd.underlying30 rfl (by decide) (by decide) rfl HN7.out.row1 rfl (Src.row HR7.out) (by simp) (fun _ hz => ints_one hz) (by rw [mvd_len]; have := HL1.out; have := HLK.out.2.2.2.2; dsimp only; omega) HB7b.out ?_;
         intro v9 w9 hA9; have HA9 := hidden hA9; have hob9 := HN7.out.still hA9.grown HN7.out.apart1; have r4 := cell_of_row w9 NB 4 _ _ _ hob9; have hf9 := frozen_row hob9 4; clear hob9; obtain ⟨a9, c9, hv9⟩ := row_slice hA9.own; subst hv9; clear hA9))
    all_goals (have hS := StN.put1 HN7.out HE7.out HB7x.out HNB.out HB7b.out HA9.out; rw [addK_zero N token L] at hS)
    all_goals (try go_wp2_with fail)
    all_goals go_meet
    all_goals exact hS
  case rest =>
    clear HS3 HA3
    obtain ⟨lst, hlst⟩ : ∃ l, l = spI (elems (prtL L).last) := ⟨_, rfl⟩
    obtain ⟨m, hm⟩ : ∃ m, m = (setsL L).length := ⟨_, rfl⟩
    have HLS := hidden hlst
    have HM := hidden hm
    have hm1 := HM.out ▸ HSL.out
    rw [← hlst] at hcut ⊢
    rw [← hm]
    have HS := hidden hcut
    have HUP := hidden (show Up lst from by rw [hlst]; exact sp_up _)
    have HLL := hidden (show lst.length ≤ 256 from by rw [hlst]; exact sp_le _)
    have HM1 := hidden hm1
    clear hlst hm hm1 hcut
    go_wp2_with fail
    go_loopw [42] (fun i wr => ∃ k, k ≤ m ∧ i = .int .i64 k ∧ StN w NB base (.slice a2 lst.length c2) lst (addK N token L k) wr) (fun i _ => m - (Go.RowKit.intOf i).toNat)
    case atStart => exact ⟨0, by omega, rfl, HS.out⟩
    case round =>
      obtain ⟨k, hk, rfl, hS⟩ := hrel
      obtain ⟨qs, qo, ql, qf, q1, qus, hN, hE, hB⟩ := hS
      have HNk := hidden hN
      have HEk := hidden hE
      have HBk := hidden hB
      have hbs := Nat.le_trans HB.out HBk.out.size
      have HBs := hidden hbs
      clear hN hE hB HS
      by_cases hlt : k < m
      · have HK1 := hidden (show k < 100 from by have := HM1.out; have := HL.out; omega)
        have HNa := hidden (HNk.out.kept ((Below.refl wr.heap.size wr).alloc (Nat.le_refl _) (.cells #[.int .i64 token] 3)))
        have HEa := hidden (far_kept HEk.out ((Below.refl wr.heap.size wr).alloc (Nat.le_refl _) (.cells #[.int .i64 token] 3)))
        have HBa := hidden (HBk.out.alloc hbs (.cells #[.int .i64 token] 3))
        have hbs2 : base ≤ (wr.alloc (.cells #[.int .i64 token] 3)).heap.size := by simp; omega
        have HBa2 := hidden hbs2
        obtain ⟨m0, m1, m2, m3, m4⟩ := HNk.out.cells
        obtain ⟨n0, n1, n2, n3, n4⟩ := HNa.out.cells
        obtain ⟨a5, c5, rfl⟩ := HNk.out.rowO.form
        have HI5 := hidden infoInt
        have HOL := hidden (show (addK N token L k).of.length + 1 ≤ 1000000 from by have := HLK.out.2.1; have := HK1.out; simp [addK]; omega)
        clear hbs hbs2 m0 m2 m3 m4 n0 n2 n3 n4
        go_wp2_with (at_builtin; refine wpList_app rfl _ _ rfl HI5.out Tryd.underlying30 rfl (by decide) (by decide) rfl HNa.out.rowO rfl (Src.one wr (.int .i64 token) 3 _ rfl) (by simp) (by simp [Value.oneCell']) HOL.out HBa2.out ?_; intro v3 w3 hA; have HA3 := hidden hA; obtain ⟨a3, c3, hv3⟩ := row_slice hA.own; subst hv3; have hob3 := HNa.out.still hA.grown HNa.out.apartO; have l0 := cell_of_row w3 NB 1 _ _ _ hob3; have hfz := frozen_row hob3 1; clear hA hob3 m1 n1)
        have HS3 := hidden (StN.putO (m := [token]) HNa.out HEa.out HBa.out HNB.out HBa2.out HA3.out)
        clear l0 hfz
        generalize w3.setCell ⟨NB, 1, none⟩ (.slice a3 ((addK N token L k).of.length + 1) c3) = w7 at *
        go_cut [42] from 42 to 81 (fun i wx => i = .int .i64 k ∧ StN w NB base (.slice a2 lst.length c2) lst { { addK N token L k with of := (addK N token L k).of ++ [token] } with last := (addK N token L k).last ++ [decide ((k : Int) ∈ lst)] } wx)
        case first =>
          obtain ⟨qs, qo, ql, qf, q1, qus, hN4, hE4, hB4⟩ := HS3.out
          have HB4 := hidden hB4.drew
          have HN4 := hidden (hN4.kept (w' := w7.drew) (Below.refl _ _).drew)
          have HE4 := hidden (far_kept hE4 (w' := w7.drew) (Below.refl _ _).drew)
          have HB4b := hidden (show base ≤ w7.drew.heap.size from Nat.le_trans HB.out HB4.out.size)
          obtain ⟨a5, c5, rfl⟩ := row_slice hN4.rowL
          obtain ⟨m0, m1, m2, m3, m4⟩ := HN4.out.cells
          have HI6 := hidden infoB
          have HLL2 := hidden (show (addK N token L k).last.length + 1 ≤ 1000000 from by have := HLK.out.2.2.1; have := HK1.out; simp [addK]; omega)
          have HZ4 := hidden (show RdZ w7.drew.heap.size w7.drew (.slice a2 lst.length c2) lst from HE4.out.mono fun _ hk => ⟨hk.1, rfl⟩)
          obtain ⟨bb, hbb⟩ : ∃ b, b = decide ((k : Int) ∈ lst) := ⟨_, rfl⟩
          have HBB := hidden hbb
          clear hB4 hN4 hE4 m0 m1 m3 m4 HS3 HA3 hbb
          go_region_law (first
            | (go_simp; refine (has_calls _ _ lst (k : Int) HZ4.out HUP.out (by have := HLL.out; omega)).mono ?_;
               rintro e w5 ⟨rfl, hb5⟩; rw [← HBB.out]; have HB5 := hidden hb5; have hn5 := HN4.out.kept hb5; have HE5 := hidden (far_kept HE4.out hb5); obtain ⟨p0, p1, p2, p3, p4⟩ := hn5.cells; have HB5x := hidden (below_then HB4.out HB4b.out hb5); have HB5b := hidden (Nat.le_trans HB.out HB5x.out.size);
               have HN6 := hidden (hn5.kept ((Below.refl w5.heap.size w5).alloc (Nat.le_refl _) (.cells #[.bool bb] 4))); have HE6 := hidden (far_kept HE5.out ((Below.refl w5.heap.size w5).alloc (Nat.le_refl _) (.cells #[.bool bb] 4))); have HB6 := hidden (HB5x.out.alloc HB5b.out (.cells #[.bool bb] 4)); have HB6b := hidden (Nat.le_trans HB.out HB6.out.size); obtain ⟨q0, q1, q2, q3, q4⟩ := HN6.out.cells; clear hb5 hn5 p0 p1 p3 p4 q0 q1 q3 q4; dsimp only)
            | (refine step_app rfl _ _ rfl HI6.out Tryd.underlying45 rfl (by decide) (by decide) rfl HN6.out.rowL rfl (Src.one _ (.bool bb) 4 _ rfl) (by simp) (by simp [Value.oneCell']) HLL2.out HB6b.out ?_;
               intro v9 w9 hA9; have HA9 := hidden hA9; have hob9 := HN6.out.still hA9.grown HN6.out.apartL; have r4 := cell_of_row w9 NB 2 _ _ _ hob9; have hf9 := frozen_row hob9 2; clear hob9; obtain ⟨a9, c9, hv9⟩ := row_slice hA9.own; subst hv9; clear hA9))
          all_goals (have hS := StN.putL (m := [bb]) HN6.out HE6.out HB6.out HNB.out HB6b.out HA9.out)
          all_goals (try go_wp2_with fail)
          all_goals go_meet
          all_goals exact ⟨rfl, by rw [← HBB.out]; exact hS⟩
        case rest =>
          obtain ⟨rfl, hS⟩ := hcut
          obtain ⟨qs, qo, ql, qf, q1, qus, hN4, hE4, hB4⟩ := hS
          have HB4 := hidden hB4.drew
          have HN4 := hidden (hN4.kept (w' := wc.drew) (Below.refl _ _).drew)
          have HE4 := hidden (far_kept hE4 (w' := wc.drew) (Below.refl _ _).drew)
          have HV4 := hidden (HV.out.below (C' := C) (w' := wc.drew) fun b hb => ⟨hb, HB4.out.block b (HC.out b hb)⟩)
          have HT4 := hidden (HT.out.low HB4.out HGB.out)
          have HB4b := hidden (show base ≤ wc.drew.heap.size from Nat.le_trans HB.out HB4.out.size)
          obtain ⟨a5, c5, rfl⟩ := row_slice hN4.rowF
          obtain ⟨m0, m1, m2, m3, m4⟩ := HN4.out.cells
          have HI7 := hidden infoZZ
          have HFL2 := hidden (show (addK N token L k).fol.length + 1 ≤ 1000000 from by have := HLK.out.2.2.2.1; have := HK1.out; simp [addK]; omega)
          have HL1 := hidden (sp_le (folL k L))
          clear hB4 hN4 hE4 m0 m1 m2 m4 HS3 HA3
          go_wp2_with fail
          go_region_law (first
            | (go_simp; refine (spFollow_calls (k : Int) HV4.out (fun b hb => Nat.lt_of_lt_of_le (HC.out b hb) HB4b.out) HWD.out HT4.out).mono ?_;
               rintro e w5 ⟨v5, rfl, hr5, hb5⟩; have HR5 := hidden hr5; have HB5 := hidden (below_then HB4.out HB4b.out hb5); have HB5b := hidden (Nat.le_trans HB.out HB5.out.size); have hn5 := HN4.out.kept hb5; have HN5 := hidden hn5; have HE5 := hidden (far_kept HE4.out hb5); obtain ⟨p0, p1, p2, p3, p4⟩ := hn5.cells; obtain ⟨a6, c6, hv6⟩ := hr5.form; subst hv6; clear hr5 hb5 hn5 p0 p1 p2 p4; dsimp only)
            | (go_simp; refine (moved_calls (N.sets.length : Int) HR5.out.reads (by have := HL1.out; omega)).mono ?_;
               rintro e w6 ⟨v7, rfl, hr7, hb7⟩; have hn7 := HN5.out.kept hb7; have HX7 := hidden (HN5.out.fresh hr7 (Nat.le_refl _)); have HE7 := hidden (far_kept HE5.out hb7); obtain ⟨p0, p1, p2, p3, p4⟩ := hn7.cells; obtain ⟨a8, c8, hv8⟩ := hr7.form; subst hv8; have HB7 := hidden (below_then HB5.out HB5b.out hb7); have HB7b := hidden (Nat.le_trans HB.out HB7.out.size);
               have hal := (Below.refl w6.heap.size w6).alloc (Nat.le_refl _) (.cells #[.slice a8 (mvd (spI (elems (folL k L))) N.sets.length).length c8] 30);
               have HN8 := hidden (hn7.kept hal); have HE8 := hidden (far_kept HE7.out hal); have HX8 := hidden (far_kept HX7.out hal); have HB8 := hidden (HB7.out.alloc HB7b.out (.cells #[.slice a8 (mvd (spI (elems (folL k L))) N.sets.length).length c8] 30)); have HB8b := hidden (Nat.le_trans HB.out HB8.out.size); obtain ⟨q0, q1', q2, q3, q4⟩ := HN8.out.cells;
               clear hal hr7 hb7 hn7 p0 p1 p2 p4 q0 q1' q2 q4; dsimp only)
            | (refine step_app rfl _ _ rfl HI7.out Tryd.underlying46 rfl (by decide) (by decide) rfl HN8.out.rowF rfl (Src.one _ (.slice a8 (mvd (spI (elems (folL k L))) N.sets.length).length c8) 30 _ rfl) (by simp) (by simp [Value.oneCell']) HFL2.out HB8b.out ?_;
               intro v9 w9 hA9; have HA9 := hidden hA9; have hob9 := HN8.out.still hA9.grown HN8.out.apartF; have r4 := cell_of_row w9 NB 3 _ _ _ hob9; have hf9 := frozen_row hob9 3; clear hob9; obtain ⟨a9, c9, hv9⟩ := row_slice hA9.own; subst hv9; clear hA9))
          all_goals (have hS := StN.putF HN8.out HE8.out HB8.out HNB.out HB8b.out HX8.out HA9.out)
          all_goals have hk1 := HK1.out
          all_goals go_wp2_with fail
          all_goals go_roundw
          all_goals first
            | (exact ⟨k + 1, by omega, by go_num, by rw [addK_more, ← HLS.out]; exact hS⟩)
            | (simp [Go.RowKit.intOf]; omega)
      · have e : k = m := by omega
        subst e
        have HE := hidden (HM.out ▸ addK_all N token L : addK N token L k = addM N token L)
        rw [HE.out] at HNk
        go_wp2
        refine bodyPost_end (results_none rfl _ _ _) rfl ?_
        exact ⟨rfl, HBk.out, _, _, _, _, _, _, HNk.out⟩
end Go.Proofs.YtbokhofdgdcpdaaDoor

/- Tokens as they are read, and the contract of Fuse. -/
namespace Go.Proofs.YtbokhofdgdcpdaaDoor
open Go.RowKit Go.Lib Go.Joins
/-- a slice of tokens whose expressions read as these -/
def Toks (C : Nat → Prop) (w : World) (v : Value) (T : List (List Stp)) : Prop := ∃ a cap, v = .slice a T.length cap ∧ T.length ≤ cap ∧ cap ≤ maxLen ∧ (0 < T.length → ∃ b off, a = some ⟨b, off, none⟩ ∧ C b ∧ ∀ i, i < T.length → ∃ u, w.cell? ⟨b, off + i * 3 + 1, none⟩ = some u ∧ SlX C w u (T.getD i []))
theorem Toks.below {C C' : Nat → Prop} {w w' : World} {v : Value} {T : List (List Stp)} (h : Toks C w v T) (hb : ∀ b, C b → C' b ∧ w'.heap[b]? = w.heap[b]?) : Toks C' w' v T := by
  obtain ⟨a, cap, rfl, h1, h2, h3⟩ := h
  refine ⟨a, cap, rfl, h1, h2, fun hp => ?_⟩
  obtain ⟨b, off, e, hC, hc⟩ := h3 hp
  refine ⟨b, off, e, (hb b hC).1, fun i hi => ?_⟩
  obtain ⟨u, hu, hr⟩ := hc i hi
  exact ⟨u, (World.cell?_of_block (a := ⟨b, off + i * 3 + 1, none⟩) (hb b hC).2).trans hu, hr.below hb⟩
theorem Toks.at {C C' : Nat → Prop} {w w' : World} {a : Option Addr} {n c : Nat} {T : List (List Stp)} (h : Toks C w (.slice a n c) T) (hb : ∀ b, C b → C' b ∧ w'.heap[b]? = w.heap[b]?) (i : Nat) (hi : i < T.length) :
    ∃ b off a' c', a = some ⟨b, off, none⟩ ∧ C' b ∧ w'.cell? ⟨b, off + i * 3 + 1, none⟩ = some (.slice a' (T.getD i []).length c') ∧ SlX C' w' (.slice a' (T.getD i []).length c') (T.getD i []) := by
  obtain ⟨a', cap, e, h1, h2, h3⟩ := h.below hb
  simp only [Value.slice.injEq] at e
  obtain ⟨rfl, rfl, rfl⟩ := e
  obtain ⟨b, off, rfl, hC, hc⟩ := h3 (by omega)
  obtain ⟨u, hu, hr⟩ := hc i hi
  obtain ⟨a2, c2, rfl, _⟩ := id hr
  exact ⟨b, off, a2, c2, rfl, hC, hu, hr⟩
/-- the net of the first k tokens -/
def fuseK (T : List (List Stp)) (k : Nat) : NetM := (List.range k).foldl (fun N (i : Nat) => addM N i (T.getD i [])) ⟨[], [], [], [], []⟩
theorem fuseK_more (T : List (List Stp)) (k : Nat) : fuseK T (k + 1) = addM (fuseK T k) k (T.getD k []) := by
  simp [fuseK, List.range_succ]
theorem fuseK_all (T : List (List Stp)) : fuseK T T.length = fuseM T := rfl
/-- few tokens, of few steps -/
structure FewT (T : List (List Stp)) : Prop where
  len : T.length ≤ 12
  each : ∀ i, (T.getD i []).length ≤ 90
  wide : ∀ i, ∀ s ∈ T.getD i [], s.wide
theorem fuseK_len {T : List (List Stp)} (h : FewT T) : ∀ k, k ≤ 12 → (fuseK T k).sets.length ≤ k * 256 ∧ (fuseK T k).of.length ≤ k * 256 ∧ (fuseK T k).last.length ≤ k * 256 ∧ (fuseK T k).fol.length ≤ k * 256 ∧ (fuseK T k).first.length ≤ k * 256
  | 0, _ => by simp [fuseK]
  | k + 1, hk => by
    obtain ⟨h1, h2, h3, h4, h5⟩ := fuseK_len h k (by omega)
    rw [fuseK_more]
    have h6 := setsL_len (T.getD k [])
    have h7 := h.each k
    have h8 := sp_le (prtL (T.getD k [])).first
    simp only [addM, List.length_append, List.length_replicate, List.length_map, List.length_range, mvd_len]
    refine ⟨?_, ?_, ?_, ?_, ?_⟩ <;> omega
/-- a net by value -/
def netV (vs vo vl vf v1 : Value) : Value := .agg #[vs, vo, vl, vf, v1]
/-- what a maker of nets hands back -/
def RetN (w : World) (N : NetM) (e : Ending) (w' : World) : Prop := ∃ vs vo vl vf v1, e = .returned (netV vs vo vl vf v1) ∧ RdNet w'.heap.size w' vs vo vl vf v1 N ∧ Below w.heap.size w w'
theorem five_one {vs vo vl vf v1 : Value} {us : List Value} {w : World} {NB base : Nat} {N : NetM} (h : NetW w NB base vs vo vl vf v1 us N) : (#[vs, vo, vl, vf, v1] : Array Value).all (·.oneCell') = true := by
  obtain ⟨_, _, rfl⟩ := rowS_slice2 h.rowS
  obtain ⟨_, _, rfl⟩ := row_slice h.rowO
  obtain ⟨_, _, rfl⟩ := row_slice h.rowL
  obtain ⟨_, _, rfl⟩ := row_slice h.rowF
  obtain ⟨_, _, rfl⟩ := row_slice h.row1
  simp [Value.oneCell']
theorem ret_net {fn : Func} {R : Ending → World → Prop} {a : Act} {w : World} {B p : Nat} {vs vo vl vf v1 : Value} (h : fn.results = #[.cell p 48]) (hp : a.tmps.getD p undef = .pointer (some ⟨B, 0, none⟩))
    (hd : a.defers = []) (hS : w.heap[B]? = some (.cells #[vs, vo, vl, vf, v1] 48 (0, 0))) (hR : R (.returned (netV vs vo vl vf v1)) w) : bodyPost Tryd.prog fn R .ret a w :=
  bodyPost_ret (results_cell_row h _ w B 48 _ (0, 0) _ hp hS Tryd.underlying48 rfl (by kernel_rfl)) hd hR
/-- a block below, of slices alone, may be written -/
theorem NetW.over {vs vo vl vf v1 : Value} {us : List Value} {w w' : World} {NB base B : Nat} {N : NetM} (h : NetW w NB base vs vo vl vf v1 us N) (hg : w.grownBy w' (some B)) (hB : B < base) (hNB : base ≤ NB) (hc : ∀ j u, w.cell? ⟨B, j, none⟩ = some u → ∃ a n c, u = .slice a n c) : NetW w' NB base vs vo vl vf v1 us N := by
  refine ⟨⟨(hg.block NB h.own.lt (fun e => by simp only [Option.some.injEq] at e; omega)).trans h.own.obj, fun r hr => World.ownsRow.kept (h.own.rows r hr) hg (.inr fun e => ?_), h.own.apart, h.own.out⟩, h.len, fun i hi => ?_⟩
  · have := ((h.own.rows r hr).lt B e).1
    omega
  · obtain ⟨a, cap, e, h1, h2, h3, h4⟩ := h.el i hi
    refine ⟨a, cap, e, h1, h2, h3, fun hp => ?_⟩
    obtain ⟨b, off, e2, hP, hcell⟩ := h4 hp
    have hbB : b ≠ B := by
      rintro rfl
      obtain ⟨_, _, _, e3⟩ := hc _ _ (hcell 0 hp)
      cases e3
    have hh := hg.block b hP.1 (fun e => hbB (by simpa using e))
    exact ⟨b, off, e2, ⟨Nat.lt_of_lt_of_le hP.1 hg.size, hP.2⟩, fun i hi => (World.cell?_of_block (a := ⟨b, off + i, none⟩) hh).trans (hcell i hi)⟩
theorem nil_cells {w : World} {B : Nat} {t : TypeId} (h : w.heap[B]? = some (.cells #[.slice none 0 0, .slice none 0 0, .slice none 0 0, .slice none 0 0, .slice none 0 0] t (0, 0))) : ∀ j u, w.cell? ⟨B, j, none⟩ = some u → ∃ a n c, u = .slice a n c := by
  intro j u hu
  rw [cell_of_row w B j _ _ _ h] at hu
  have hm := Array.mem_of_getElem? hu
  simp at hm
  exact ⟨_, _, _, hm⟩
set_option maxHeartbeats 4000000 in
set_option maxRecDepth 100000 in
theorem Fuse_calls {C : Nat → Prop} {v : Value} {T : List (List Stp)} {w : World} (h : Toks C w v T) (hC : ∀ b, C b → b < w.heap.size) (hT : FewT T) (ht : Tab w) (hgb : 0 < w.heap.size) :
    Calls Tryd.prog 30 #[v] w (RetN w (fuseM T)) := by
  have HV := hidden h
  have HC := hidden hC
  have HF := hidden hT
  have HT := hidden ht
  have HG := hidden hgb
  obtain ⟨av, cv, rfl, _⟩ := h
  have hb0 := ((Below.refl w.heap.size w).alloc (Nat.le_refl _) (.cells #[.slice none 0 0, .slice none 0 0, .slice none 0 0, .slice none 0 0, .slice none 0 0] 48)).alloc (by simp) (.cells #[.slice none 0 0, .slice none 0 0, .slice none 0 0, .slice none 0 0, .slice none 0 0] 48)
  have hn0 := NetW.nil (w.alloc (.cells #[.slice none 0 0, .slice none 0 0, .slice none 0 0, .slice none 0 0, .slice none 0 0] 48)) (w.heap.size + 1)
  have ho0 := heap_alloc2_old w (.cells #[.slice none 0 0, .slice none 0 0, .slice none 0 0, .slice none 0 0, .slice none 0 0] 48) (.cells #[.slice none 0 0, .slice none 0 0, .slice none 0 0, .slice none 0 0, .slice none 0 0] 48)
  rw [show (w.alloc (.cells #[.slice none 0 0, .slice none 0 0, .slice none 0 0, .slice none 0 0, .slice none 0 0] 48)).heap.size = w.heap.size + 1 by simp] at hn0
  have HB0 := hidden hb0
  have HN0 := hidden hn0
  have HO0 := hidden ho0
  obtain ⟨m, hm⟩ : ∃ m, m = T.length := ⟨_, rfl⟩
  have HM := hidden hm
  have hm12 := hm ▸ hT.len
  rw [← hm]
  clear hC hT ht hgb hb0 hn0 ho0 hm
  go_enter Tryd.func30, Tryd.ntmps30
  go_wp2_with fail
  generalize hW : (w.alloc (.cells #[.slice none 0 0, .slice none 0 0, .slice none 0 0, .slice none 0 0, .slice none 0 0] 48)).alloc (.cells #[.slice none 0 0, .slice none 0 0, .slice none 0 0, .slice none 0 0, .slice none 0 0] 48) = W at *
  have HWs := hidden (show W.heap.size = w.heap.size + 2 by rw [← hW]; simp)
  clear hW
  go_loopw [7] (fun i wr => ∃ k vs vo vl vf v1 us, k ≤ m ∧ i = .int .i64 k ∧ NetW wr (w.heap.size + 1) (w.heap.size + 1) vs vo vl vf v1 us (fuseK T k) ∧ Below (w.heap.size + 1) W wr) (fun i _ => m - (Go.RowKit.intOf i).toNat)
  case atStart => exact ⟨0, _, _, _, _, _, _, by omega, rfl, HN0.out, Below.refl _ _⟩
  case round =>
    obtain ⟨k, vs, vo, vl, vf, v1, us, hk, rfl, hN, hB⟩ := hrel
    have HN := hidden hN
    have HB := hidden hB
    have HBw := hidden (HB0.out.trans (hB.mono (Nat.le_succ _)))
    clear hN hB HN0
    by_cases hlt : k < m
    · obtain ⟨b, off, a2, c2, rfl, hCb, hc, hx⟩ := HV.out.at (C' := C) (w' := wr) (fun b hb => ⟨hb, HBw.out.block b (HC.out b hb)⟩) k (HM.out ▸ hlt)
      have HX := hidden hx
      have hL9 := HF.out.each k
      have HL9 := hidden hL9
      have HNL := hidden (fuseK_len HF.out k (by omega))
      clear hx hL9 hCb
      go_wp2_with fail
      refine (add_calls HN.out (Nat.le_refl _) HX.out (fun b hb => Nat.lt_succ_of_lt (HC.out b hb)) (HF.out.wide k) (by have := HL9.out; omega) (by have := HNL.out.1; omega) (by have := HNL.out.2.1; omega) (by have := HNL.out.2.2.1; omega) (by have := HNL.out.2.2.2.1; omega) (by have := HNL.out.2.2.2.2; omega) (k : Int) (HT.out.below HBw.out) (Nat.lt_succ_of_lt HG.out)).mono ?_
      rintro e w1 ⟨rfl, hb1, qs, qo, ql, qf, q1, qus, hN1⟩
      have HB1 := hidden (HB.out.trans hb1)
      have HN1 := hidden hN1
      clear hb1 hN1
      go_wp2_with fail
      go_roundw
      case rel => exact ⟨k + 1, _, _, _, _, _, _, by omega, by go_num, by rw [fuseK_more]; exact HN1.out, HB1.out⟩
      case measure => simp [Go.RowKit.intOf]; omega
    · have e : k = m := by omega
      subst e
      have HE := hidden (HM.out ▸ fuseK_all T : fuseK T k = fuseM T)
      rw [HE.out] at HN
      have HO1 := hidden ((HB.out.block w.heap.size (by omega)).trans HO0.out)
      go_wp2_with (first
        | (refine wpList_load_row rfl 48 (.tmp 3) rfl (w.heap.size + 1) rfl 48 #[vs, vo, vl, vf, v1] (0, 0) _ HN.out.obj Tryd.underlying48 rfl (by kernel_rfl) ?_)
        | (refine store_row (B := w.heap.size) (cs := #[vs, vo, vl, vf, v1]) (old := #[.slice none 0 0, .slice none 0 0, .slice none 0 0, .slice none 0 0, .slice none 0 0]) (t := 48) rfl (ty := 48) (x := .tmp 2) (y := .tmp 18) rfl rfl rfl HO1.out 5 (by kernel_rfl) rfl rfl (five_one HN.out) ?_; intro w2 hw2 hg2; have HL2 := hidden hw2; have HG2 := hidden hg2; clear hw2 hg2))
      have HW2 := hidden (HN.out.over HG2.out (Nat.lt_succ_self _) (Nat.le_refl _) (nil_cells HO1.out))
      have HB2 := hidden (HBw.out.grown HG2.out HBw.out.size (fun j e => by simp only [Option.some.injEq] at e; omega))
      exact ret_net Tryd.results30 rfl rfl HL2.out ⟨_, _, _, _, _, rfl, HW2.out.reads, HB2.out⟩
end Go.Proofs.YtbokhofdgdcpdaaDoor
