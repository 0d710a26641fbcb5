/- 'FuseReads' answers true for every list of tokens and every word: a word leads to an end of just the tokens whose expressions say it, and the first of these is told. Conditions: the listed table math/bits.deBruijn64tab holds what its initialiser lays (listed and tied). -/
import Derived.Test.YtbokhofdgdcpdaaDoorFu35
import Derived.Test.YtbokhofdgdcpdaaDoorFu27
import Derived.Test.YtbokhofdgdcpdaaDoorFu12
namespace Go.Proofs.YtbokhofdgdcpdaaDoor
open Go.RowKit Go.Lib Go.Joins
structure KP2 (w0 : World) (n0 : Nat) (vs vo vl vf v1 : Value) (N : NetM) (v : Value) (T : List (List Stp)) (u : Value) (A : List Int) (w : World) : Prop where
  k : KV w0 n0 vs vo vl vf v1 N v T w
  z : RdZ w.heap.size w u A
theorem KP2.more {w0 w w' : World} {n0 : Nat} {vs vo vl vf v1 v u : Value} {A : List Int} {N : NetM} {T : List (List Stp)} (h : KP2 w0 n0 vs vo vl vf v1 N v T u A w) (hb : Below w.heap.size w w') : KP2 w0 n0 vs vo vl vf v1 N v T u A w' :=
  ⟨h.k.more hb, h.z.later hb⟩
set_option maxHeartbeats 16000000 in
set_option maxRecDepth 100000 in
theorem walkFuReads (a0 : Option Addr) (len0 cap0 : Nat) (T : List (List Stp)) (s1 : ByteArray) (w : World) (h : Toks (fun b => b < w.heap.size) w (.slice a0 len0 cap0) T ∧ ∀ i, ∀ s ∈ T.getD i [], s.fit) (_ : s1.size ≤ maxLen) (ht : Tab w) :
    Calls Tryd.prog 8 #[.slice a0 len0 cap0, .string s1] w fun e w' => e = .returned (.bool true) ∧ Below w.heap.size w w' := by
  obtain ⟨hT, hfit⟩ := h
  have hwd : ∀ i, ∀ s ∈ T.getD i [], s.wide := fun i s hs => fit_wide (hfit i s hs)
  have HT := hidden ht
  have HG := hidden (show 0 < w.heap.size from cell_lt (ht 0 (by decide)))
  have HV := hidden hT
  have HF := hidden (Few_calls hT)
  by_cases hfew : fewB T = true
  case neg =>
    have hfew' : fewB T = false := by simpa using hfew
    rw [hfew'] at HF
    clear hT hfit hwd ht hfew hfew'
    go_enter Tryd.func8, Tryd.ntmps8
    go_wp2_with fail
    refine HF.out.mono ?_
    rintro e w1 ⟨rfl, rfl⟩
    go_wp2_with fail
    refine (knows12_calls _ HT.out).mono ?_
    rintro e w4 ⟨rfl, hb4⟩
    go_wp2
    go_ret
    exact ⟨rfl, hb4⟩
  rw [hfew] at HF
  have HFT := hidden (few_yes hfew hwd)
  have HFS := hidden (few_sets hfew hwd)
  have HRT := hidden (fuseM_right HFT.out)
  have HWD := hidden (fuseM_wide hwd)
  have HTW := hidden hwd
  clear hT hfit hwd ht hfew
  by_cases p1 : 30 < s1.size
  case pos =>
    have q2 : decide ((30 : Int) < (s1.size : Int)) = true := decide_eq_true (by omega)
    have q3 : decide (30 < s1.size) = true := decide_eq_true p1
    clear p1
    go_enter Tryd.func8, Tryd.ntmps8
    go_wp2_with fail
    refine HF.out.mono ?_
    rintro e w1 ⟨rfl, rfl⟩
    go_wp2_with fail
    refine (knows12_calls _ HT.out).mono ?_
    rintro e w4 ⟨rfl, hb4⟩
    go_wp2
    go_ret
    exact ⟨rfl, hb4⟩
  have q2 : decide ((30 : Int) < (s1.size : Int)) = false := decide_eq_false (by omega)
  have q3 : decide (30 < s1.size) = false := decide_eq_false p1
  by_cases p3 : s1.size = 0
  case pos =>
    obtain rfl : s1 = ⟨#[]⟩ := by
      have : s1.data.size = 0 := p3
      cases s1
      simp_all
    clear p1 p3
    go_enter Tryd.func8, Tryd.ntmps8
    go_wp2_with fail
    refine HF.out.mono ?_
    rintro e w1 ⟨rfl, rfl⟩
    go_wp2_with fail
    refine (knows12_calls _ HT.out).mono ?_
    rintro e w4 ⟨rfl, hb4⟩
    go_wp2
    go_ret
    exact ⟨rfl, hb4⟩
  have hpos : 0 < s1.size := by omega
  have q7 : ¬ s1.toList = [] := by
    rw [ByteArray.toList_eq]
    intro e
    have h : s1.data.toList.length = 0 := by rw [e]; rfl
    exact absurd (show s1.size = 0 from (Array.length_toList (xs := s1.data)).symm.trans h) (by omega)
  have q6 : s1.toList.isEmpty = false := by simpa using q7
  have HLEN0 := hidden (show len0 = T.length from by obtain ⟨_, _, e, _⟩ := HV.out; simp only [Value.slice.injEq] at e; exact e.2.1)
  have HOT := hidden (fun t (ht : t < T.length) => own_tells HFT.out s1 hpos ht)
  have HFI := hidden (first_tells HFT.out s1 hpos)
  have HRL := hidden (runM_facts (fuseM T) (byN s1) s1.size (by rw [byN_len]; exact Nat.le_refl _))
  rw [List.take_of_length_le (show (byN s1).length ≤ s1.size by rw [byN_len]; exact Nat.le_refl _)] at HRL
  have HLENS := hidden (fuse_lens T T.length)
  rw [fuseK_all] at HLENS
  have HOFF := hidden (show offT T T.length = (fuseM T).sets.length from rfl)
  rw [HOFF.out] at HLENS
  have HM12 := hidden HFT.out.len
  have hs30 : s1.size ≤ 30 := by omega
  have HFIR := hidden (fun t => firstM_lo T s1 t)
  have HFM := hidden (fun t => (show firstM T s1 (t + 1) = if (isT T s1 t && decide (firstM T s1 t < 0)) = true then (t : Int) else firstM T s1 t from rfl))
  have HF0 := hidden (show firstM T s1 0 = -1 from rfl)
  have HSAYS := hidden (fun (W : World) {C : Nat → Prop} {v : Value} (t : Nat) (hx : SlX C W v (T.getD t [])) (hC : ∀ b, C b → b < W.heap.size) => (show Calls Tryd.prog 25 #[v, .string s1] W fun e w' => e = .returned (.bool (isT T s1 t)) ∧ Below W.heap.size W w' from rsays_calls hx hC s1 (by omega) (HTW.out t)))
  obtain ⟨N, hNN⟩ : ∃ N, N = fuseM T := ⟨_, rfl⟩
  have HNN := hidden hNN
  have HFUSE := hidden (Fuse_calls HV.out (fun b hb => hb) HFT.out HT.out HG.out)
  rw [← hNN] at HFS HRT HWD HOT HFI HRL HLENS HFUSE
  obtain ⟨R, hR⟩ : ∃ R, R = runM N (byN s1) := ⟨_, rfl⟩
  have HRUN := hidden (fun (W : World) {vs vo vl vf v1 : Value} (hr : RdNet W.heap.size W vs vo vl vf v1 N) => (show Calls Tryd.prog 41 #[.agg #[vs, vo, vl, vf, v1], .string s1] W (RetZ W (spI R)) from by
    rw [hR]
    exact Run_calls s1 hr HWD.out (by have := HFS.out.1; omega) (by have := HFS.out.2; omega) (by omega)))
  rw [← hR] at HOT HFI HRL
  have HTOK := hidden (fun (W : World) {vs vo vl vf v1 u : Value} {l : List Int} (hr : RdNet W.heap.size W vs vo vl vf v1 N) (hz : RdZ W.heap.size W u l) => Token_calls hr (by have := HFS.out.1; omega) hz)
  obtain ⟨m, hm⟩ : ∃ m, m = T.length := ⟨_, rfl⟩
  have HM := hidden hm
  rw [← hm] at HOT HFI HM12
  have hm12 := HM12.out
  obtain ⟨fm, hfm⟩ : ∃ fm, fm = firstM T s1 := ⟨_, rfl⟩
  obtain ⟨si, hsi⟩ : ∃ si, si = isT T s1 := ⟨_, rfl⟩
  rw [← hfm, ← hsi] at HFM
  rw [← hfm] at HF0 HFIR HFI
  rw [← hsi] at HOT HSAYS
  have hml : m = len0 := by rw [HLEN0.out, hm]
  subst hml
  clear p1 p3 hpos hNN hR hm hfm hsi HOFF HLEN0
  go_enter Tryd.func8, Tryd.ntmps8
  go_wp2_with fail
  refine HF.out.mono ?_
  rintro e w1 ⟨rfl, rfl⟩
  go_wp2_with fail
  refine HFUSE.out.mono ?_
  rintro e w2 ⟨vs, vo, vl, vf, v1, rfl, hr2, hb2⟩
  have HB2 := hidden hb2
  have HR2 := hidden hr2
  clear hr2 hb2
  unfold netV
  have HO := hidden (heap_alloc_new w2 (.cells #[.slice none 0 0, .slice none 0 0, .slice none 0 0, .slice none 0 0, .slice none 0 0] 48))
  dsimp only
  go_wp2_with (refine store_row (B := w2.heap.size) (cs := #[vs, vo, vl, vf, v1]) (old := #[.slice none 0 0, .slice none 0 0, .slice none 0 0, .slice none 0 0, .slice none 0 0]) (t := 48) rfl (ty := 48) (x := .tmp 5) (y := .tmp 26) rfl rfl rfl HO.out 5 (by kernel_rfl) rfl rfl HR2.out.one ?_; intro w3 hw3 hg3; have HL3 := hidden hw3; have HG3 := hidden hg3; obtain ⟨y0, y1, y2, y3, y4⟩ : w3.cell? ⟨w2.heap.size, 0, none⟩ = some vs ∧ w3.cell? ⟨w2.heap.size, 1, none⟩ = some vo ∧ w3.cell? ⟨w2.heap.size, 2, none⟩ = some vl ∧ w3.cell? ⟨w2.heap.size, 3, none⟩ = some vf ∧ w3.cell? ⟨w2.heap.size, 4, none⟩ = some v1 := ⟨cell_of_row _ _ 0 _ _ _ hw3, cell_of_row _ _ 1 _ _ _ hw3, cell_of_row _ _ 2 _ _ _ hw3, cell_of_row _ _ 3 _ _ _ hw3, cell_of_row _ _ 4 _ _ _ hw3⟩; clear hw3 hg3)
  have hB3 : Below w2.heap.size w2 w3 := ((Below.refl w2.heap.size w2).alloc (Nat.le_refl _) _).grown HG3.out (by simp) (fun j e => by simp only [Option.some.injEq] at e; omega)
  have hB4 := below_after HB2.out hB3
  have HK := hidden (KV.mk (w0 := w) (n0 := w2.heap.size) hB4 HL3.out (HR2.out.later hB3) (HV.out.later hB4) (HT.out.below hB4))
  obtain ⟨n0, hn0⟩ : ∃ n0, n0 = w2.heap.size := ⟨_, rfl⟩
  rw [← hn0] at HK ⊢
  clear hB3 hB4 HO HL3 HG3 hn0 y0 y1 y2 y3 y4
  refine (HRUN.out _ HK.out.r).mono ?_
  rintro e w4 ⟨u, rfl, hr4, hb4⟩
  obtain ⟨a6, c6, hu⟩ := hr4.form
  subst hu
  have HK4 := hidden (KP2.mk (HK.out.more hb4) hr4.reads)
  clear hr4 hb4 HK
  obtain ⟨so, co, rfl⟩ := HK4.out.k.r.of.form
  obtain ⟨sl, cl, rfl⟩ := HK4.out.k.r.last.form
  obtain ⟨r, hr⟩ : ∃ r, r = (spI R).length := ⟨_, rfl⟩
  have HRR := hidden (show r = R.length by rw [hr, spI_len])
  obtain ⟨ns, hns⟩ : ∃ ns, ns = N.sets.length := ⟨_, rfl⟩
  have HNO := hidden (show N.of.length = ns by rw [hns]; exact HLENS.out.1)
  have HNL := hidden (show N.last.length = ns by rw [hns]; exact HLENS.out.2.1)
  rw [HNO.out, HNL.out, ← hr] at HK4
  rw [HNO.out, HNL.out, ← hr]
  rw [← hns] at HRL HFS
  have hns90 : ns ≤ 90 := HFS.out.1
  have hr90 : r ≤ 90 := by have := HRL.out.1; have := HRR.out; omega
  clear hr hns
  have HOM := hidden (fun t j (hj : j < R.length) => ownM_more N t R j hj)
  have HOL := hidden (fun t j => (show (ownM N t (R.take j)).length ≤ 90 from Nat.le_trans (ownM_len _ _ _) (by have := HRR.out; rw [List.length_take]; omega)))
  have HOZ := hidden (fun t => (show ownM N t (R.take 0) = [] from rfl))
  have HOA := hidden (fun t => (show ownM N t (R.take r) = ownM N t R by rw [HRR.out, List.take_length]))
  have HAT := hidden (fun j (hj : j < r) => (show (spI R).getD j 0 = ((R.getD j 0 : Nat) : Int) from spI_getDJ R j))
  have HQL := hidden (fun j (hj : j < r) => (show R.getD j 0 < ns from HRL.out.2 _ (by have := HRR.out; rw [List.getD_eq_getElem?_getD, List.getElem?_eq_getElem (by omega)]; exact List.getElem_mem _)))
  go_wp2_with fail
  go_loopw [7, 8] (fun f i wr => ∃ t : Nat, t ≤ m ∧ i = .int .i64 t ∧ f = .int .i64 (fm t) ∧ Below w4.heap.size w4 wr) (fun _ i _ => m - (Go.RowKit.intOf i).toNat)
  case atStart => exact ⟨0, by omega, rfl, by rw [HF0.out], Below.refl _ _⟩
  case round =>
    obtain ⟨t, htm, rfl, rfl, hb⟩ := hrel
    have HB := hidden hb
    have hsz := hb.size
    clear hb
    by_cases hlt : t < m
    · have HN0 := hidden (RowZ.lit wr _ rfl #[] rfl)
      have HBN := hidden (HB.out.alloc hsz (.cells #[] 3))
      go_wp2_with fail
      go_loopw [9, 10] (fun ov i wq => ∃ (j : Nat) (o : Value), j ≤ r ∧ o = ov ∧ i = .int .i64 j ∧ RowZ wq w4.heap.size o (spI (ownM N t (R.take j))) ∧ Below w4.heap.size w4 wq) (fun _ i _ => r - (Go.RowKit.intOf i).toNat)
      case atStart => exact ⟨0, _, by omega, rfl, rfl, by rw [HOZ.out, spI_nil]; exact HN0.out.lower hsz, HBN.out⟩
      case round =>
        clear HN0 HBN
        obtain ⟨j, o, hj, rfl, rfl, ho, hb⟩ := hrel
        have HO := hidden ho
        have HBq := hidden hb
        have hszq := hb.size
        have HKq := hidden (HK4.out.more hb)
        obtain ⟨g, cap, rfl⟩ := ho.form
        clear ho hb
        by_cases hjr : j < r
        · obtain ⟨ba, oa, rfl, hba, c0⟩ := HKq.out.z.atZ (Below.refl _ _) j (by rw [spI_len, ← HRR.out]; exact hjr)
          rw [HAT.out j hjr] at c0
          have hq := HQL.out j hjr
          have HSTEP := hidden (HOM.out t j (by rw [← HRR.out]; exact hjr))
          have HOLJ := hidden (HOL.out t j)
          obtain ⟨q, hqq⟩ : ∃ q, q = R.getD j 0 := ⟨_, rfl⟩
          rw [← hqq] at c0 hq HSTEP
          obtain ⟨bo, oo, rfl, hbo, o0⟩ := HKq.out.k.r.of.atZ (Below.refl _ _) q (by rw [HNO.out]; exact hq)
          obtain ⟨y, hy⟩ : ∃ y, y = N.of.getD q 0 := ⟨_, rfl⟩
          rw [← hy] at o0 HSTEP
          obtain ⟨OL, hOL⟩ : ∃ OL, OL = ownM N t (R.take j) := ⟨_, rfl⟩
          rw [← hOL] at HO HSTEP HOLJ ⊢
          obtain ⟨ol, hol⟩ : ∃ k, k = (spI OL).length := ⟨_, rfl⟩
          have HOLL := hidden (show (spI OL).length = ol from hol.symm)
          rw [← hol] at HO ⊢
          obtain ⟨_, k1, k2, _, _⟩ := HKq.out.k.cells
          have d0 : decide ((q : Int) < 0) = false := decide_eq_false (by omega)
          have d1 : decide ((ns : Int) ≤ (q : Int)) = false := decide_eq_false (by omega)
          have d2 : decide (ns ≤ q) = false := decide_eq_false (by omega)
          have g0 := fun (p : Later wr) => Later.cell c0 (cell_lt c0) p
          have g1 := fun (p : Later wr) => Later.cell k1 (cell_lt k1) p
          have g2 := fun (p : Later wr) => Later.cell k2 (cell_lt k2) p
          clear hqq hy hOL hol hba hbo
          go_wp2
          refine wp_region_later (by kernel_rfl) (by kernel_rfl) ?_
          repeat (go_big_quiet_step (fail))
          refine wpQuiet_nil ?_
          rintro _ ⟨⟨_, hb5⟩, rfl⟩
          rename_i w5
          have HB5 := hidden (below_after HBq.out hb5)
          have HO5 := hidden (HO.out.kept hb5)
          have c5 := (hb5.cell (cell_lt c0)).trans c0
          have o5 := (hb5.cell (cell_lt o0)).trans o0
          have k5 := (hb5.cell (cell_lt k1)).trans k1
          have e0 := fun (p : Later w5) => Later.cell c5 (cell_lt c5) p
          have e1 := fun (p : Later w5) => Later.cell o5 (cell_lt o5) p
          have e2 := fun (p : Later w5) => Later.cell k5 (cell_lt k5) p
          clear hb5 g0 g1 g2 c0 o0 k1 k2
          by_cases hyt : y = (t : Int)
          · have f0 : (y == (t : Int)) = true := by simp [hyt]
            rw [if_pos hyt] at HSTEP
            clear hyt
            go_wp2
            refine wp_region_later (by kernel_rfl) (by kernel_rfl) ?_
            repeat (go_big_quiet_step (fail))
            refine wpQuiet_nil ?_
            rintro _ ⟨⟨_, hb6⟩, rfl⟩
            rename_i w6
            have HB6 := hidden (below_after HB5.out hb6)
            have hal := (Below.refl w6.heap.size w6).alloc (Nat.le_refl _) (.cells #[.int .i64 (q : Int)] 3)
            have HO6 := hidden (HO5.out.kept (below_after hb6 hal))
            have HB7 := hidden (below_after HB6.out hal)
            have c6 := (hb6.cell (cell_lt c5)).trans c5
            have HI5 := hidden infoInt
            clear hb6 e0 e1 e2 c5 o5 k5 hal
            go_wp2_with (at_builtin; refine wpList_app rfl _ _ rfl HI5.out Tryd.underlying30 rfl (by decide) (by decide) rfl HO6.out rfl (Src.one w6 (.int .i64 (q : Int)) 3 _ rfl) (by simp) (by simp [Value.oneCell']) (by have := HOLJ.out; rw [spI_len]; omega) HB7.out.size ?_; intro v8 w8 hA; have HA8 := hidden hA; obtain ⟨a8, c8, hv8⟩ := row_slice hA.own; subst hv8; clear hA)
            go_roundw
            case rel =>
              refine ⟨j + 1, _, by omega, rfl, by go_num, ?_, HB7.out.grown HA8.out.grown HB7.out.size (row_low HO6.out)⟩
              rw [HSTEP.out, spI_append, spI_one]
              exact rowZ_app (m := [(q : Int)]) HA8.out.own
            case measure => simp [Go.RowKit.intOf]; omega
          · have f0 : (y == (t : Int)) = false := by simp [hyt]
            rw [if_neg hyt] at HSTEP
            clear hyt
            go_wp2
            refine wp_region_later (by kernel_rfl) (by kernel_rfl) ?_
            repeat (go_big_quiet_step (fail))
            refine wpQuiet_nil ?_
            rintro _ ⟨⟨_, hb6⟩, rfl⟩
            rename_i w6
            have HB6 := hidden (below_after HB5.out hb6)
            have HO6 := hidden (HO5.out.kept hb6)
            clear hb6 e0 e1 e2 c5 o5 k5
            go_wp2
            go_roundw
            case rel => exact ⟨j + 1, _, by omega, rfl, by go_num, by rw [HSTEP.out]; have h6 := HO6.out; rw [← HOLL.out] at h6 ⊢; exact h6, HB6.out⟩
            case measure => simp [Go.RowKit.intOf]; omega
        · obtain rfl : j = r := by omega
          rw [HOA.out] at HO ⊢
          have HOTt := HOT.out t hlt
          have HTK := hidden (fun (W : World) {vs vo vl vf v1 u : Value} (hr : RdNet W.heap.size W vs vo vl vf v1 N) (hz : RdZ W.heap.size W u (spI (ownM N t R))) => HTOK.out W hr hz)
          obtain ⟨OL, hOL⟩ : ∃ OL, OL = spI (ownM N t R) := ⟨_, rfl⟩
          rw [← hOL] at HO HOTt HTK ⊢
          obtain ⟨tk, htk⟩ : ∃ tk, tk = tokenM N OL := ⟨_, rfl⟩
          rw [← htk] at HOTt HTK
          have HFMt := hidden (HFM.out t)
          obtain ⟨bt, ot, a', c', rfl, hbt, ct, hxt⟩ := HK4.out.k.t.at (C' := fun b => b < w4.heap.size) (w' := w4) (fun b hb => ⟨hb, rfl⟩) t (by rw [← HM.out]; exact hlt)
          have ct := (HBq.out.cell (p := ⟨bt, ot + t * 3 + 1, none⟩) hbt).trans ct
          have HXT := hidden (hxt.below (C' := fun b => b < wr.heap.size) (w' := wr) fun b hb => ⟨Nat.lt_of_lt_of_le hb hszq, HBq.out.block b hb⟩)
          have HSY := hidden (HSAYS.out wr t HXT.out (fun b hb => hb))
          obtain ⟨sb, hsb⟩ : ∃ sb, sb = si t := ⟨_, rfl⟩
          rw [← hsb] at HOTt HFMt HSY
          obtain ⟨f0, hf0⟩ : ∃ f0, f0 = fm t := ⟨_, rfl⟩
          have HF1 := hidden (HFIR.out t)
          rw [← hf0] at HFMt HF1 ⊢
          have e2 : (sb != sb) = false := by simp
          have hlt' : t < 100 := by omega
          clear hOL htk hxt hsb hf0 hjr
          go_wp2_with fail
          refine HSY.out.mono ?_
          rintro e w5 ⟨rfl, hb5⟩
          have HB5 := hidden (below_after HBq.out hb5)
          have HK5 := hidden (HK4.out.more HB5.out)
          have HO5 := hidden (HO.out.kept hb5)
          obtain ⟨k0, k1, k2, k3, k4⟩ := HK5.out.k.cells
          clear hb5 ct
          go_wp2_with fail
          refine (HTK.out _ HK5.out.k.r HO5.out.reads).mono ?_
          rintro e w6 ⟨rfl, hb6⟩
          have HB6 := hidden (below_after HB5.out hb6)
          clear hb6 k0 k1 k2 k3 k4
          cases sb
          case false =>
            have HF2 := hidden (show fm (t + 1) = f0 from by rw [HFMt.out]; simp)
            go_wp2
            go_roundw
            case rel => exact ⟨t + 1, by omega, by go_num, by rw [HF2.out], HB6.out⟩
            case measure => simp [Go.RowKit.intOf]; omega
          case true =>
            by_cases hneg : f0 < 0
            · have d0 : decide (f0 < 0) = true := decide_eq_true hneg
              have HF2 := hidden (show fm (t + 1) = (t : Int) from by rw [HFMt.out, d0]; simp)
              clear hneg
              go_wp2
              go_roundw
              case rel => exact ⟨t + 1, by omega, by go_num, by rw [HF2.out], HB6.out⟩
              case measure => simp [Go.RowKit.intOf]; omega
            · have d0 : decide (f0 < 0) = false := decide_eq_false hneg
              have HF2 := hidden (show fm (t + 1) = f0 from by rw [HFMt.out, d0]; simp)
              clear hneg
              go_wp2
              go_roundw
              case rel => exact ⟨t + 1, by omega, by go_num, by rw [HF2.out], HB6.out⟩
              case measure => simp [Go.RowKit.intOf]; omega
    · obtain rfl : t = m := by omega
      have HK5 := hidden (HK4.out.more HB.out)
      obtain ⟨k0, k1, k2, k3, k4⟩ := HK5.out.k.cells
      have HTK := hidden (HTOK.out wr HK5.out.k.r HK5.out.z)
      rw [HFI.out] at HTK
      obtain ⟨f0, hf0⟩ : ∃ f0, f0 = fm t := ⟨_, rfl⟩
      rw [← hf0] at HTK ⊢
      have e1 : (f0 == f0) = true := by simp
      clear hf0 hlt
      go_wp2_with fail
      refine HTK.out.mono ?_
      rintro e w6 ⟨rfl, hb6⟩
      have HB6 := hidden (below_after HB.out hb6)
      have HT6 := hidden (HK4.out.k.tab.below HB6.out)
      clear hb6 k0 k1 k2 k3 k4
      go_wp2_with fail
      refine (knows12_calls _ HT6.out).mono ?_
      rintro e w7 ⟨rfl, hb7⟩
      have HB7 := hidden (below_after HK4.out.k.b (below_after HB6.out hb7))
      go_wp2
      go_ret
      exact ⟨rfl, HB7.out⟩
namespace lawFuseReads
open Go.ChangeShapes Go.WideShapes Go.ChangeAt Go.RowKit Go.Deep
open Go.ChangeMaps (open_string shut_string)

set_option maxRecDepth 100000 in
theorem lifted (os : Os) (started : os.Started) (H : Type) (enc : TypeId × Value → H) :
    ReturnsInHanded {} Tryd.checked os 8 .any (fun w args => (Rows.fuseReadsSpec.pre enc Tryd.prog Tryd.f8 Rows.fuseReadsRow.domain false w args ∧ laidMetH Tryd.prog [("math/bits.deBruijn64tab", Rows.laid_math_bits_deBruijn64tab)] w) ∧ sizedMet enc Tryd.prog Tryd.f8 (OpenSpec.ofChange Rows.fuseReadsSpec) false w args)
      (Rows.fuseReadsSpec.post enc Tryd.prog Tryd.f8 false true false false) := by
  refine returnsInHanded_of_change_and (C := Tryd.checked) (X := fun w _ => laidMetH Tryd.prog [("math/bits.deBruijn64tab", Rows.laid_math_bits_deBruijn64tab)] w) (fun _ _ _ hh h => h.of_heap hh) own started (by kernel_rfl) Tryd.func8
    (ChangeSpec.witness_shaped (enc := enc) (C := Tryd.checked) (os := os) (X := fun w _ => laidMetH Tryd.prog [("math/bits.deBruijn64tab", Rows.laid_math_bits_deBruijn64tab)] w) false (World.laidAll Tryd.prog os [("math/bits.deBruijn64tab", Rows.laid_math_bits_deBruijn64tab)]) #[.slice none 0 0, .string ⟨#[]⟩] 8 (World.laidAll_os _ _ _)
      (World.shaped_of_ZipB (by kernel_rfl) (by kernel_rfl)) (by kernel_rfl) (by kernel_rfl) (by kernel_rfl)
      (by rw [MakeChecks.laidMetH_plain _ _ _ (by kernel_rfl)]; exact laidMet_laidAll _ (by kernel_rfl) (by kernel_rfl))) ?_
  intro W base args ds gs before hval0 hW hcnd _ hL _
  have hval : ∀ (j : Nat) t v, Tryd.f8.params[j]? = some t → args[j]? = some v → Value.okWide Tryd.prog W .any base t v := hval0
  have hW' : DataW.Whole enc Tryd.prog Tryd.f8.params.toList Rows.fuseReadsSpec.vars false W args.toList ds gs before := hW
  obtain ⟨p, q, hA0, hV, rfl, hfz, hnd⟩ := hW
  have hA : DataW.TrodAll enc Tryd.prog W 0 (fun _ => true) true Tryd.f8.params.toList args.toList ds p := hA0
  have ht : Tab W := of_laid (by kernel_rfl) hL
  rw [Tryd.params8] at hA hval
  obtain ⟨v0, vs0, d0, ds0, p0, q0, hargs, hd0, hp0, h0, r0⟩ := trodAll_cons hA
  obtain ⟨v1, vs1, d1, ds1, p1, q1, rfl, hd1, hp1, h1, r1⟩ := trodAll_cons r0
  obtain ⟨rfl, _, _⟩ := trodAll_nil r1
  obtain rfl : args = #[v0, v1] := by cases args; simp_all
  obtain ⟨a0, len0, cap0, rfl⟩ := okWide_slice Tryd.underlying43 (hval 0 43 v0 rfl rfl)
  obtain ⟨z0, w0⟩ := open_toks h0
  obtain ⟨a1, rfl, _, _, w1⟩ := open_string Tryd.underlying9 (hval 1 9 v1 rfl rfl) h1
  refine (walkFuReads a0 len0 cap0 z0 a1 W w0 w1 ht).mono fun e W' ⟨he, hb⟩ => ⟨_, he, ends_true hW' rfl (by kernel_rfl) ?_ (by kernel_rfl) hb⟩
  intro xs hxs
  match xs, hxs with
  | [_, _], _ => rfl

theorem proved : Rows.FuseReadsSaid :=
  OpenClaim.holds_of_wide 8 Tryd.f8 rfl rfl rfl rfl rfl rfl rfl ⟨rfl, rfl, rfl, rfl, rfl⟩ rfl rfl rfl rfl rfl (by kernel_rfl) Tryd.func8 (by kernel_rfl)
    (of_decide_eq_true (by kernel_rfl)) (by unfold Func.isWrapper; first | (rw [if_pos (by decide +kernel)]; kernel_rfl) | (rw [if_neg (by decide +kernel)]; exact ⟨rfl, rfl⟩))
    (fun os started H enc _ => lifted os started H enc)

/-- the card: the row, and what it lists tied to the program's text -/
theorem card : Rows.FuseReadsCardSaid :=
  Claim7.holds_tied_plain_at .later [] [.data] true (true, "2d7a7cdab9648aa92af065527db2f9159c0a253275d1700557e608e94f046fb4") false
    proved (fun _ h => by cases h) (by kernel_rfl) (fun _ h => by cases h) fuseReads_row_tie rfl ⟨rfl, rfl⟩ (by kernel_rfl) rfl
    (fun f fn hf hfn => by
      obtain rfl : f = 8 := Option.some.inj ((show Tryd.prog.funcNamed "facsimile/facsimilelaw12.FuseReads" = some 8 by kernel_rfl).symm.trans hf) |>.symm
      obtain rfl : fn = Tryd.f8 := (Option.some.inj (Tryd.func8.symm.trans hfn)).symm
      exact ⟨by kernel_rfl, fun j t ht => by
        rw [Tryd.params8] at ht
        have hm : t ∈ [43, 9] := by simpa using Array.mem_of_getElem? ht
        have hall : ([43, 9].all fun u => !Tryd.prog.wantsStandIn u) = true := by kernel_rfl
        exact (show Tryd.prog.wantsStandIn t = false by simpa using List.all_eq_true.1 hall t hm)⟩)
    (by kernel_rfl)

end lawFuseReads
end Go.Proofs.YtbokhofdgdcpdaaDoor
