/- FuRFuse, LvOf, LvKt, LvSrc, put together. -/
import Derived.Test.YtnjjbaodfjmiaaaGreatLt38
import Derived.Test.YtnjjbaodfjmiaaaGreatLt36
import Derived.Test.YtnjjbaodfjmiaaaGreatLt32
import Derived.Test.YtnjjbaodfjmiaaaGreatLt34
import Derived.Test.YtnjjbaodfjmiaaaGreatLt37
/- Contract of the reference's Fuse. -/
namespace Go.Proofs.YtnjjbaodfjmiaaaGreat
open Go.RowKit Go.Lib Go.Joins
theorem bumpS (w : World) (o : Obj) : Below w.heap.size w (w.alloc o) := (Below.refl w.heap.size w).alloc (Nat.le_refl _) o
set_option maxHeartbeats 8000000 in
set_option maxRecDepth 100000 in
theorem rFuse_calls {C : Nat → Prop} {v : Value} {T : List (List Stp)} {w : World} (h : Toks C w v T) (hC : ∀ b, C b → b < w.heap.size) (hT : FewT T) :
    Calls Tryz.prog 44 #[v] w (RetN w (fuseM T)) := by
  have HV := hidden h
  have HC := hidden hC
  have HF := hidden hT
  obtain ⟨av, cv, rfl, _⟩ := h
  have hb0 := ((Below.refl w.heap.size w).alloc (Nat.le_refl _) (.cells #[.slice none 0 0, .slice none 0 0, .slice none 0 0, .slice none 0 0, .slice none 0 0] 72)).alloc (by simp) (.cells #[.slice none 0 0, .slice none 0 0, .slice none 0 0, .slice none 0 0, .slice none 0 0] 72)
  have hn0 := NetW.nil (w.alloc (.cells #[.slice none 0 0, .slice none 0 0, .slice none 0 0, .slice none 0 0, .slice none 0 0] 72)) (w.heap.size + 1)
  have ho0 := heap_alloc2_old w (.cells #[.slice none 0 0, .slice none 0 0, .slice none 0 0, .slice none 0 0, .slice none 0 0] 72) (.cells #[.slice none 0 0, .slice none 0 0, .slice none 0 0, .slice none 0 0, .slice none 0 0] 72)
  rw [show (w.alloc (.cells #[.slice none 0 0, .slice none 0 0, .slice none 0 0, .slice none 0 0, .slice none 0 0] 72)).heap.size = w.heap.size + 1 by simp] at hn0
  have HB0 := hidden hb0
  have HN0 := hidden hn0
  have HO0 := hidden ho0
  obtain ⟨m, hm⟩ : ∃ m, m = T.length := ⟨_, rfl⟩
  have HM := hidden hm
  have hm12 := hm ▸ hT.len
  rw [← hm]
  clear hC hT hb0 hn0 ho0 hm
  go_enter Tryz.func44, Tryz.ntmps44
  go_wp2_with fail
  generalize hW : (w.alloc (.cells #[.slice none 0 0, .slice none 0 0, .slice none 0 0, .slice none 0 0, .slice none 0 0] 72)).alloc (.cells #[.slice none 0 0, .slice none 0 0, .slice none 0 0, .slice none 0 0, .slice none 0 0] 72) = W at *
  have HWs := hidden (show W.heap.size = w.heap.size + 2 by rw [← hW]; simp)
  clear hW
  go_loopw [4] (fun i wr => ∃ k vs vo vl vf v1 us, k ≤ m ∧ i = .int .i64 k ∧ NetW wr (w.heap.size + 1) (w.heap.size + 1) vs vo vl vf v1 us (fuseK T k) ∧ Below (w.heap.size + 1) W wr) (fun i _ => m - (Go.RowKit.intOf i).toNat)
  case atStart => exact ⟨0, _, _, _, _, _, _, by omega, rfl, HN0.out, Below.refl _ _⟩
  case round =>
    obtain ⟨k, vs, vo, vl, vf, v1, us, hk, rfl, hN, hB⟩ := hrel
    have HN := hidden hN
    have HB := hidden hB
    have HBw := hidden (HB0.out.trans (hB.mono (Nat.le_succ _)))
    clear hN hB HN0
    by_cases hlt : k < m
    · obtain ⟨b, off, a2, c2, rfl, hCb, hc, hx⟩ := HV.out.at (C' := C) (w' := wr) (fun b hb => ⟨hb, HBw.out.block b (HC.out b hb)⟩) k (HM.out ▸ hlt)
      have HX := hidden hx
      have HCB := hidden hCb
      have hL9 := HF.out.each k
      have hwd := HF.out.wide k
      have hln := fuseK_len HF.out k (by omega)
      have HBS := hidden (show w.heap.size + 1 ≤ wr.heap.size from by have := HB.out.size; have := HWs.out; omega)
      have HFK := hidden (show fuseK T (k + 1) = addM (fuseK T k) k (T.getD k []) from fuseK_more T k)
      obtain ⟨L, hL⟩ : ∃ L, L = T.getD k [] := ⟨_, rfl⟩
      obtain ⟨N, hNN⟩ : ∃ N, N = fuseK T k := ⟨_, rfl⟩
      rw [← hL] at HX hc hL9 hwd HFK
      rw [← hNN] at HN hln HFK
      have HWD := hidden hwd
      have HL9 := hidden hL9
      have HNL := hidden hln
      obtain ⟨as0, cs0, rfl⟩ := rowS_slice2 HN.out.rowS
      obtain ⟨k0, k1, k2, k3, k4⟩ := HN.out.cells
      clear hx hL9 hCb hwd hln hL hNN k1 k2 k3 k4
      go_wp2_with fail
      refine (rspsets_calls HX.out (fun b hb => Nat.lt_of_lt_of_le (HC.out b hb) (Nat.le_of_succ_le HBS.out)) (by have := HL9.out; omega)).mono ?_
      rintro e w1 ⟨v6, rfl, hr6, hb6⟩
      have HB6 := hidden hb6
      have HE6 := hidden (HN.out.freshS hr6 (Nat.le_refl _))
      have HN6 := hidden (HN.out.kept hb6)
      have HX6 := hidden (HX.out.below (C' := C) (w' := w1) fun b hb => ⟨hb, hb6.block b (Nat.lt_of_lt_of_le (HC.out b hb) (Nat.le_of_succ_le HBS.out))⟩)
      have hc6 := (hb6.cell (p := ⟨b, off + k * 3 + 1, none⟩) (Nat.lt_of_lt_of_le (HC.out b HCB.out) (Nat.le_of_succ_le HBS.out))).trans hc
      have HBS6 := hidden (Nat.le_trans HBS.out hb6.size)
      obtain ⟨a6, c6, rfl⟩ := rowS_slice2 hr6
      clear hr6 hb6 hc
      go_wp2_with fail
      refine (rLast_calls HX6.out (fun b hb => Nat.lt_of_lt_of_le (HC.out b hb) (Nat.le_of_succ_le HBS6.out)) HWD.out).mono ?_
      rintro e w2 ⟨v7, rfl, hr7, hb7⟩
      have HN7 := hidden (HN6.out.kept hb7)
      have HE7 := hidden (HE6.out.mono (FarK.below (rs := rows5 (.slice as0 N.sets.length cs0) vo vl vf v1 us N) hb7))
      have HZ7 := hidden (HN6.out.fresh hr7 (Nat.le_refl _))
      have HB7 := hidden (below_after HB6.out hb7)
      obtain ⟨a7, c7, hv7⟩ := hr7.form
      subst hv7
      have HBA := hidden (HB.out.trans (HB7.out.mono HBS.out))
      have HXA := hidden (HX6.out.below (C' := C) (w' := w2) fun b hb => ⟨hb, hb7.block b (Nat.lt_of_lt_of_le (HC.out b hb) (Nat.le_of_succ_le HBS6.out))⟩)
      have HCA := hidden ((hb7.cell (p := ⟨b, off + k * 3 + 1, none⟩) (Nat.lt_of_lt_of_le (HC.out b HCB.out) (Nat.le_of_succ_le HBS6.out))).trans hc6)
      clear hr7 hb7 hc6 HX HX6 HE6 HN6 HN k0 HB6 HB7 HBS HBS6 HBw
      obtain ⟨lst, hlst⟩ : ∃ l, l = spI (elems (prtL L).last) := ⟨_, rfl⟩
      obtain ⟨n, hn⟩ : ∃ n, n = (setsL L).length := ⟨_, rfl⟩
      obtain ⟨d, hd⟩ : ∃ d, d = N.sets.length := ⟨_, rfl⟩
      have HLST := hidden hlst
      have HNS := hidden hn
      have HD := hidden hd
      have HLL := hidden (show lst.length ≤ 256 from by rw [hlst]; exact sp_le _)
      have hn90 : n ≤ 90 := by rw [hn]; have := setsL_len L; have := HL9.out; omega
      rw [← hlst] at HZ7
      rw [← hlst, ← hn, ← hd]
      rw [← hn] at HE7
      rw [← hd] at HN7 HZ7 HE7
      have hrA : ∃ rsA, rsA = rows5 (.slice as0 d cs0) vo vl vf v1 us N := ⟨_, rfl⟩
      clear hlst hn hd
      obtain ⟨rsA, hrs⟩ := hrA
      have hS0 : StF W (w.heap.size + 1) w2 rsA (w.heap.size + 1) (refK N k L 0) w2 := by
        rw [refK_zero, hrs]
        exact ⟨_, _, _, _, _, _, HN7.out, FarK.refl _ _ _, HBA.out⟩
      rw [← hrs] at HE7 HZ7
      have HS0 := hidden hS0
      have HSL := hidden (show (setsL L).length = n from HNS.out.symm)
      clear hS0 hrs
      go_wp2_with fail
      go_loopw [8] (fun i wq => ∃ j, j ≤ n ∧ i = .int .i64 j ∧ StF W (w.heap.size + 1) w2 rsA (w.heap.size + 1) (refK N k L j) wq) (fun i _ => n - (Go.RowKit.intOf i).toNat)
      case atStart => exact ⟨0, by omega, rfl, HS0.out⟩
      case round =>
        obtain ⟨j, hj, rfl, hS⟩ := hrel
        obtain ⟨qs, qo, ql, qf, q1, qus, hNq, hFq, hBq⟩ := hS
        have hszq := hBq.size
        have HBK := hidden (fun (wx : World) (hB : Below (w.heap.size + 1) W wx) x (hx : x < w.heap.size + 1) => (hB.block x hx).trans (HBA.out.block x hx).symm)
        by_cases hjt : j < n
        · have hszq' : w.heap.size + 1 ≤ wr.heap.size := by have := HWs.out; omega
          have HNd := hidden (hNq.kept (w' := wr.drew) (Below.refl _ _).drew)
          have HFd := hidden (hFq.trans (FarK.below (w' := wr.drew) (Below.refl _ _).drew))
          have HLEN := hidden (show (refK N k L j).sets.length + 1 ≤ 1000000 ∧ (refK N k L j).of.length + 1 ≤ 1000000 ∧ (refK N k L j).last.length + 1 ≤ 1000000 ∧ (refK N k L j).fol.length + 1 ≤ 1000000 from by
            have := HNL.out
            simp only [refK, List.length_append, List.length_take, List.length_replicate, List.length_map, List.length_range]
            omega)
          have HMORE := hidden (refK_more N k L j (HSL.out.symm ▸ hjt))
          rw [← HLST.out, ← HD.out] at HMORE
          obtain ⟨b6, o6, rfl, _, s0, s1, s2, s3⟩ := HE7.out.at (w' := wr.drew) HFd.out j (HSL.out.symm ▸ hjt)
          generalize (setsL L).getD j default = sj at *
          obtain ⟨sk, sa, sb, sc, sd⟩ := sj
          dsimp only at s0 s1 s2 s3
          have hal : Below wr.heap.size wr (wr.alloc (.cells #[.int .u64 sa, .int .u64 sb, .int .u64 sc, .int .u64 sd] 103)).drew := (bumpS wr _).drew
          have HNa := hidden (hNq.kept hal)
          have HFa := hidden (hFq.trans (FarK.below hal))
          have HBa := hidden ((hBq.alloc hszq' (.cells #[.int .u64 sa, .int .u64 sb, .int .u64 sc, .int .u64 sd] 103)).drew)
          have HBSa := hidden (Nat.le_trans hszq' hal.size)
          obtain ⟨m0, m1, m2, m3, m4⟩ := HNd.out.cells
          obtain ⟨n0, n1, n2, n3, n4⟩ := HNa.out.cells
          obtain ⟨a5, c5, rfl⟩ := rowS_slice2 hNq.rowS
          have HI := hidden infoS
          clear hNq hFq hBq hal m1 m2 m3 m4 n1 n2 n3 n4 HS0
          go_wp2_with fail
          go_cut [] from 31 to 73 (fun wx => StF W (w.heap.size + 1) w2 rsA (w.heap.size + 1) { refK N k L j with sets := (refK N k L j).sets ++ [(⟨sk, sa, sb, sc, sd⟩ : Stp)] } wx)
          case first =>
            go_region_law ((refine step_app rfl _ _ rfl HI.out Tryz.underlying70 rfl (by decide) (by decide) rfl HNa.out.rowS rfl (Src.four _ (.int .u64 sa) (.int .u64 sb) (.int .u64 sc) (.int .u64 sd) 103 _ rfl) (by simp) (by simp [Value.oneCell']) HLEN.out.1 HBSa.out ?_; intro v9 w9 hA9; have HA9 := hidden hA9; have hob9 := HNa.out.still hA9.grown HNa.out.apartS; have r4 := cell_of_row w9 (w.heap.size + 1) 0 _ _ _ hob9; have hf9 := frozen_row hob9 0; clear hob9; obtain ⟨a9, c9, hv9⟩ := row_slice hA9.own; subst hv9; clear hA9))
            all_goals (have hS := StF.putS (S' := [⟨sk, sa, sb, sc, sd⟩]) HNa.out HFa.out HBa.out (Nat.le_refl _) HBSa.out HA9.out)
            all_goals (try go_wp2_with fail)
            all_goals go_meet
            all_goals exact hS
          case rest =>
            obtain ⟨qs, qo, ql, qf, q1, qus, hNq, hFq, hBq⟩ := hcut
            have hszc : w.heap.size + 1 ≤ wc.heap.size := by have := HWs.out; have := hBq.size; omega
            have hal := bumpS wc (.cells #[.int .i64 k] 3)
            have HNa := hidden (hNq.kept hal)
            have HFa := hidden (hFq.trans (FarK.below hal))
            have HBa := hidden (hBq.alloc hszc (.cells #[.int .i64 k] 3))
            have HBSa := hidden (Nat.le_trans hszc hal.size)
            obtain ⟨m0, m1, m2, m3, m4⟩ := hNq.cells
            obtain ⟨n0, n1, n2, n3, n4⟩ := HNa.out.cells
            obtain ⟨a5, c5, rfl⟩ := hNq.rowO.form
            have HI5 := hidden infoInt
            clear hNq hFq hBq hal m0 m2 m3 m4 n0 n2 n3 n4
            go_wp2_with (at_builtin; refine wpList_app rfl _ _ rfl HI5.out Tryz.underlying24 rfl (by decide) (by decide) rfl HNa.out.rowO rfl (Src.one wc (.int .i64 k) 3 _ rfl) (by simp) (by simp [Value.oneCell']) HLEN.out.2.1 HBSa.out ?_; intro v3 w3 hA; have HA3 := hidden hA; obtain ⟨a3, c3, hv3⟩ := row_slice hA.own; subst hv3; have hob3 := HNa.out.still hA.grown HNa.out.apartO; have l0 := cell_of_row w3 (w.heap.size + 1) 1 _ _ _ hob3; have hfz := frozen_row hob3 1; clear hA hob3 m1 n1)
            have HS3 := hidden (StF.putO (m := [(k : Int)]) HNa.out HFa.out HBa.out (Nat.le_refl _) HBSa.out HA3.out)
            clear l0 hfz
            generalize w3.setCell ⟨w.heap.size + 1, 1, none⟩ (.slice a3 ((refK N k L j).of.length + 1) c3) = w7 at *
            go_cut [] from 31 to 73 (fun wx => StF W (w.heap.size + 1) w2 rsA (w.heap.size + 1) { { { refK N k L j with sets := (refK N k L j).sets ++ [(⟨sk, sa, sb, sc, sd⟩ : Stp)] } with of := (refK N k L j).of ++ [(k : Int)] } with last := (refK N k L j).last ++ [decide ((j : Int) ∈ lst)] } wx)
            case first =>
              obtain ⟨qs, qo, ql, qf, q1, qus, hN4, hF4, hB4⟩ := HS3.out
              have HB4 := hidden hB4.drew
              have HN4 := hidden (hN4.kept (w' := w7.drew) (Below.refl _ _).drew)
              have HF4 := hidden (hF4.trans (FarK.below (w' := w7.drew) (Below.refl _ _).drew))
              have HB4b := hidden (show w.heap.size + 1 ≤ w7.drew.heap.size from Nat.le_trans (by have := HWs.out; omega) HB4.out.size)
              obtain ⟨a5, c5, rfl⟩ := row_slice hN4.rowL
              obtain ⟨m0, m1, m2, m3, m4⟩ := HN4.out.cells
              have HI6 := hidden infoB
              have HZ4 := hidden (show RdZ w7.drew.heap.size w7.drew (.slice a7 lst.length c7) lst from HZ7.out.mono fun k hk => ⟨(HF4.out k hk).1.1, (HF4.out k hk).2⟩)
              obtain ⟨bb, hbb⟩ : ∃ b, b = decide ((j : Int) ∈ lst) := ⟨_, rfl⟩
              have HBB := hidden hbb
              clear hB4 hN4 hF4 m0 m1 m3 m4 HS3 HA3 hbb
              go_region_law (first
                | (go_simp; refine (has11_calls _ _ lst (j : Int) HZ4.out).mono ?_;
                   rintro e w5 ⟨rfl, hb5⟩; rw [← HBB.out]; have hn5 := HN4.out.kept hb5; have HF5 := hidden (HF4.out.trans (FarK.below hb5)); obtain ⟨p0, p1, p2, p3, p4⟩ := hn5.cells; have HB5x := hidden (below_then HB4.out HB4b.out hb5); have HB5b := hidden (Nat.le_trans HB4b.out hb5.size);
                   have hal := bumpS w5 (.cells #[.bool bb] 4);
                   have HN6 := hidden (hn5.kept hal); have HF6 := hidden (HF5.out.trans (FarK.below hal)); have HB6 := hidden (HB5x.out.alloc HB5b.out (.cells #[.bool bb] 4)); have HB6b := hidden (Nat.le_trans HB5b.out hal.size); obtain ⟨q0, q1, q2, q3, q4⟩ := HN6.out.cells; clear hal hb5 hn5 p0 p1 p3 p4 q0 q1 q3 q4; dsimp only)
                | (refine step_app rfl _ _ rfl HI6.out Tryz.underlying30 rfl (by decide) (by decide) rfl HN6.out.rowL rfl (Src.one _ (.bool bb) 4 _ rfl) (by simp) (by simp [Value.oneCell']) HLEN.out.2.2.1 HB6b.out ?_;
                   intro v9 w9 hA9; have HA9 := hidden hA9; have hob9 := HN6.out.still hA9.grown HN6.out.apartL; have r4 := cell_of_row w9 (w.heap.size + 1) 2 _ _ _ hob9; have hf9 := frozen_row hob9 2; clear hob9; obtain ⟨a9, c9, hv9⟩ := row_slice hA9.own; subst hv9; clear hA9))
              all_goals (have hS := StF.putL (m := [bb]) HN6.out HF6.out HB6.out (Nat.le_refl _) HB6b.out HA9.out)
              all_goals (try go_wp2_with fail)
              all_goals go_meet
              all_goals exact (by rw [← HBB.out]; exact hS)
            case rest =>
              obtain ⟨qs, qo, ql, qf, q1, qus, hN4, hF4, hB4⟩ := hcut
              have HB4 := hidden hB4.drew
              have HN4 := hidden (hN4.kept (w' := wc.drew) (Below.refl _ _).drew)
              have HF4 := hidden (hF4.trans (FarK.below (w' := wc.drew) (Below.refl _ _).drew))
              have HB4b := hidden (show w.heap.size + 1 ≤ wc.drew.heap.size from Nat.le_trans (by have := HWs.out; omega) HB4.out.size)
              obtain ⟨a5, c5, rfl⟩ := row_slice hN4.rowF
              obtain ⟨m0, m1, m2, m3, m4⟩ := HN4.out.cells
              have HI7 := hidden infoZZ
              have HV4 := hidden (HXA.out.below (C' := C) (w' := wc.drew) fun x hx => ⟨hx, HBK.out wc.drew HB4.out x (Nat.lt_succ_of_lt (HC.out x hx))⟩)
              have hc4 := (World.cell?_of_block (a := ⟨b, off + k * 3 + 1, none⟩) (HBK.out wc.drew HB4.out b (Nat.lt_succ_of_lt (HC.out b HCB.out)))).trans HCA.out
              have HL1 := hidden (sp_le (folL j L))
              have hj90 : j ≤ 90 := by omega
              clear hB4 hN4 hF4 m0 m1 m2 m4 HS3 HA3
              go_wp2_with fail
              go_region_law (first
                | (go_simp; refine (rFollow_calls (j : Int) HV4.out (fun x hx => Nat.lt_of_lt_of_le (HC.out x hx) (Nat.le_of_succ_le HB4b.out)) HWD.out).mono ?_;
                   rintro e w5 ⟨v5, rfl, hr5, hb5⟩; have HR5 := hidden hr5; have HB5 := hidden (below_then HB4.out HB4b.out hb5); have HB5b := hidden (Nat.le_trans HB4b.out hb5.size); have hn5 := HN4.out.kept hb5; have HN5 := hidden hn5; have HF5 := hidden (HF4.out.trans (FarK.below hb5)); obtain ⟨p0, p1, p2, p3, p4⟩ := hn5.cells; obtain ⟨a6, c6, hv6⟩ := hr5.form; subst hv6; clear hr5 hb5 hn5 p0 p1 p2 p4; dsimp only)
                | (go_simp; refine (rmoved_calls (d : Int) HR5.out.reads (by have := HL1.out; omega)).mono ?_;
                   rintro e w6 ⟨v7, rfl, hr7, hb7⟩; have hn7 := HN5.out.kept hb7; have HX7 := hidden (HN5.out.fresh hr7 (Nat.le_refl _)); have HF7 := hidden (HF5.out.trans (FarK.below hb7)); obtain ⟨p0, p1, p2, p3, p4⟩ := hn7.cells; obtain ⟨a8, c8, hv8⟩ := hr7.form; subst hv8; have HB7 := hidden (below_then HB5.out HB5b.out hb7); have HB7b := hidden (Nat.le_trans HB5b.out hb7.size);
                   have hal := bumpS w6 (.cells #[.slice a8 (mvd (spI (elems (folL j L))) d).length c8] 24);
                   have HN8 := hidden (hn7.kept hal); have HF8 := hidden (HF7.out.trans (FarK.below hal)); have HX8 := hidden (far_kept HX7.out hal); have HB8 := hidden (HB7.out.alloc HB7b.out (.cells #[.slice a8 (mvd (spI (elems (folL j L))) d).length c8] 24)); have HB8b := hidden (Nat.le_trans HB7b.out hal.size); obtain ⟨q0, q1', q2, q3, q4⟩ := HN8.out.cells;
                   clear hal hr7 hb7 hn7 p0 p1 p2 p4 q0 q1' q2 q4; dsimp only)
                | (refine step_app rfl _ _ rfl HI7.out Tryz.underlying23 rfl (by decide) (by decide) rfl HN8.out.rowF rfl (Src.one _ (.slice a8 (mvd (spI (elems (folL j L))) d).length c8) 24 _ rfl) (by simp) (by simp [Value.oneCell']) HLEN.out.2.2.2 HB8b.out ?_;
                   intro v9 w9 hA9; have HA9 := hidden hA9; have hob9 := HN8.out.still hA9.grown HN8.out.apartF; have r4 := cell_of_row w9 (w.heap.size + 1) 3 _ _ _ hob9; have hf9 := frozen_row hob9 3; clear hob9; obtain ⟨a9, c9, hv9⟩ := row_slice hA9.own; subst hv9; clear hA9))
              all_goals (have hS := StF.putF HN8.out HF8.out HB8.out (Nat.le_refl _) HB8b.out HX8.out HA9.out)
              all_goals go_wp2_with fail
              all_goals go_roundw
              all_goals first
                | (exact ⟨j + 1, by omega, by go_num, by rw [HMORE.out]; exact hS⟩)
                | (simp [Go.RowKit.intOf]; omega)
        · have e : j = n := by omega
          subst e
          have hszc : w.heap.size + 1 ≤ wr.heap.size := by have := HWs.out; omega
          have HB4 := hidden hBq.drew
          have HN4 := hidden (hNq.kept (w' := wr.drew) (Below.refl _ _).drew)
          have HB4b := hidden (show w.heap.size + 1 ≤ wr.drew.heap.size from hszc)
          obtain ⟨a5, c5, rfl⟩ := hNq.row1.form
          obtain ⟨m0, m1, m2, m3, m4⟩ := HN4.out.cells
          have HI7 := hidden infoInt
          have HV4 := hidden (HXA.out.below (C' := C) (w' := wr.drew) fun x hx => ⟨hx, HBK.out wr.drew HB4.out x (Nat.lt_succ_of_lt (HC.out x hx))⟩)
          have hc4 := (World.cell?_of_block (a := ⟨b, off + k * 3 + 1, none⟩) (HBK.out wr.drew HB4.out b (Nat.lt_succ_of_lt (HC.out b HCB.out)))).trans HCA.out
          have HL1 := hidden (sp_le (prtL L).first)
          have HLF := hidden (show (refK N k L j).first.length + (mvd (spI (elems (prtL L).first)) d).length ≤ 1000000 from by
            have := HNL.out.2.2.2.2
            have := HL1.out
            rw [mvd_len]
            simp only [refK]
            omega)
          have HALL := hidden (refK_all N k L)
          rw [HSL.out, ← HD.out] at HALL
          clear hNq hFq hBq m0 m1 m2 m3 HS0
          go_wp2_with fail
          go_region_law (first
            | (go_simp; refine (rFirst_calls HV4.out (fun x hx => Nat.lt_of_lt_of_le (HC.out x hx) (Nat.le_of_succ_le HB4b.out)) HWD.out).mono ?_;
               rintro e w5 ⟨v5, rfl, hr5, hb5⟩; have HR5 := hidden hr5; have HB5 := hidden (below_then HB4.out HB4b.out hb5); have HB5b := hidden (Nat.le_trans HB4b.out hb5.size); have hn5 := HN4.out.kept hb5; have HN5 := hidden hn5; obtain ⟨p0, p1, p2, p3, p4⟩ := hn5.cells; obtain ⟨a6, c6, hv6⟩ := hr5.form; subst hv6; clear hr5 hb5 hn5 p0 p1 p2 p3; dsimp only)
            | (go_simp; refine (rmoved_calls (d : Int) HR5.out.reads (by have := HL1.out; omega)).mono ?_;
               rintro e w6 ⟨v7, rfl, hr7, hb7⟩; have HR7 := hidden hr7; have hn7 := HN5.out.kept hb7; have HN7 := hidden hn7; obtain ⟨p0, p1, p2, p3, q4⟩ := hn7.cells; obtain ⟨a8, c8, hv8⟩ := hr7.form; subst hv8; have HB7 := hidden (below_then HB5.out HB5b.out hb7); have HB7b := hidden (Nat.le_trans HB5b.out hb7.size); clear hr7 hb7 hn7 p0 p1 p2 p3; dsimp only)
            | (refine step_app rfl _ _ rfl HI7.out Tryz.underlying24 rfl (by decide) (by decide) rfl HN7.out.row1 rfl (Src.row HR7.out) (by simp) (fun _ hz => ints_one hz) HLF.out HB7b.out ?_;
               intro v9 w9 hA9; have HA9 := hidden hA9; have hob9 := HN7.out.still hA9.grown HN7.out.apart1; have r4 := cell_of_row w9 (w.heap.size + 1) 4 _ _ _ hob9; have hf9 := frozen_row hob9 4; clear hob9; obtain ⟨a9, c9, hv9⟩ := row_slice hA9.own; subst hv9; clear hA9))
          all_goals (have hS := StF.put1 HN7.out (FarK.refl _ _ _) HB7.out (Nat.le_refl _) HB7b.out HA9.out)
          all_goals rw [HALL.out] at hS
          all_goals obtain ⟨zs, zo, zl, zf, z1, zus, hNz, _, hBz⟩ := hS
          all_goals go_wp2_with fail
          all_goals go_roundw
          all_goals first
            | (exact ⟨k + 1, zs, zo, zl, zf, z1, zus, by omega, by go_num, by rw [HFK.out]; exact hNz, hBz⟩)
            | (simp [Go.RowKit.intOf]; omega)
    · have e : k = m := by omega
      subst e
      have HE := hidden (HM.out ▸ fuseK_all T : fuseK T k = fuseM T)
      rw [HE.out] at HN
      have HO1 := hidden ((HB.out.block w.heap.size (by omega)).trans HO0.out)
      go_wp2_with (first
        | (refine wpList_load_row rfl 72 (.tmp 3) rfl (w.heap.size + 1) rfl 72 #[vs, vo, vl, vf, v1] (0, 0) _ HN.out.obj Tryz.underlying72 rfl (by kernel_rfl) ?_)
        | (refine store_row (B := w.heap.size) (cs := #[vs, vo, vl, vf, v1]) (old := #[.slice none 0 0, .slice none 0 0, .slice none 0 0, .slice none 0 0, .slice none 0 0]) (t := 72) rfl (ty := 72) (x := .tmp 2) (y := .tmp 86) rfl rfl rfl HO1.out 5 (by kernel_rfl) rfl rfl (five_one HN.out) ?_; intro w2 hw2 hg2; have HL2 := hidden hw2; have HG2 := hidden hg2; clear hw2 hg2))
      have HW2 := hidden (HN.out.over HG2.out (Nat.lt_succ_self _) (Nat.le_refl _) (nil_cells HO1.out))
      have HB2 := hidden (HBw.out.grown HG2.out HBw.out.size (fun j e => by simp only [Option.some.injEq] at e; omega))
      exact ret_net Tryz.results44 rfl rfl HL2.out ⟨_, _, _, _, _, rfl, HW2.out.reads, HB2.out⟩
end Go.Proofs.YtnjjbaodfjmiaaaGreat

/- Contract of the law's 'of': the texts are read, put side by side, and the machine is built. -/
namespace Go.Proofs.YtnjjbaodfjmiaaaGreat
open Go.RowKit Go.Lib Go.Joins

theorem zero_int {w : World} {B p : Nat} {x : Int} (h : DfaAt w B zG 0 (.slice none 0 0) (.slice none 0 0)) (hc : w.cell? ⟨B, p, none⟩ = some (.int .i64 x)) : p = 256 := by
  have e := (cell_of_row w B p _ _ _ h).symm.trans hc
  have hp : p < 259 := by
    have := (Array.getElem?_eq_some_iff.1 e).1
    rw [dfaC_size] at this
    exact this
  obtain ⟨r1, r2, r3⟩ := dfaC_rest zG 0 (.slice none 0 0) (.slice none 0 0)
  rcases Nat.lt_or_ge p 256 with g | g
  · unfold dfaC at e
    rw [Array.getElem?_append_left (by rw [cellsN_size]; exact g), cellsN_get _ g] at e
    simp [nV] at e
  · have hq : p = 256 ∨ p = 257 ∨ p = 258 := by omega
    rcases hq with rfl | rfl | rfl
    · rfl
    · rw [r2] at e; cases e
    · rw [r3] at e; cases e
theorem zero_slice {w : World} {B p : Nat} {a : Option Addr} {m c : Nat} (h : DfaAt w B zG 0 (.slice none 0 0) (.slice none 0 0)) (hc : w.cell? ⟨B, p, none⟩ = some (.slice a m c)) : m = 0 := by
  have e := (cell_of_row w B p _ _ _ h).symm.trans hc
  have hp : p < 259 := by
    have := (Array.getElem?_eq_some_iff.1 e).1
    rw [dfaC_size] at this
    exact this
  obtain ⟨r1, r2, r3⟩ := dfaC_rest zG 0 (.slice none 0 0) (.slice none 0 0)
  rcases Nat.lt_or_ge p 256 with g | g
  · unfold dfaC at e
    rw [Array.getElem?_append_left (by rw [cellsN_size]; exact g), cellsN_get _ g] at e
    simp [nV] at e
  · have hq : p = 256 ∨ p = 257 ∨ p = 258 := by omega
    rcases hq with rfl | rfl | rfl
    · rw [r1] at e; cases e
    · rw [r2] at e; cases e; rfl
    · rw [r3] at e; cases e; rfl
section
variable {B B' RB : Nat} {w w' : World}
theorem rdZ_past {v : Value} {l : List Int} (h : RdZ B w v l) (hz : DfaAt w RB zG 0 (.slice none 0 0) (.slice none 0 0)) (hk : ∀ k, k ≠ RB → k < B → w'.heap[k]? = w.heap[k]?) (hB : B ≤ B') (hl : 2 ≤ l.length) : RdZ B' w' v l := by
  obtain ⟨a, cap, rfl, h1, h2, h3, h4⟩ := h
  refine ⟨a, cap, rfl, h1, h2, h3, fun hp => ?_⟩
  obtain ⟨b, off, e, hb, hc⟩ := h4 hp
  have hne : b ≠ RB := fun e2 => by
    subst e2
    have g0 := zero_int hz (hc 0 (by omega))
    have g1 := zero_int hz (hc 1 (by omega))
    omega
  exact ⟨b, off, e, by omega, fun i hi => (World.cell?_of_block (a := ⟨b, off + i, none⟩) (hk b hne hb)).trans (hc i hi)⟩
theorem rdDfa_past {vn vl : Value} {D : DfaM} (h : RdDfa B w vn vl D) (hz : DfaAt w RB zG 0 (.slice none 0 0) (.slice none 0 0)) (hk : ∀ k, k ≠ RB → k < B → w'.heap[k]? = w.heap[k]?) (hB : B ≤ B') (h1 : ∀ i, i < D.next.length → 2 ≤ (D.next.getD i []).length) (h2 : 2 ≤ D.label.length) : RdDfa B' w' vn vl D := by
  refine ⟨?_, rdZ_past h.label hz hk hB h2, h.small⟩
  obtain ⟨a, cap, rfl, q1, q2, q3, q4⟩ := h.next
  refine ⟨a, cap, rfl, q1, q2, q3, fun hp => ?_⟩
  obtain ⟨b, off, e, hb, hc⟩ := q4 hp
  have hne : b ≠ RB := fun e2 => by
    subst e2
    obtain ⟨u, hu, a2, c2, rfl, _⟩ := hc 0 hp
    have := zero_slice hz hu
    have := h1 0 hp
    omega
  refine ⟨b, off, e, by omega, fun i hi => ?_⟩
  obtain ⟨u, hu, hr⟩ := hc i hi
  exact ⟨u, (World.cell?_of_block (a := ⟨b, off + i, none⟩) (hk b hne hb)).trans hu, rdZ_past hr hz hk hB (h1 i hi)⟩
end
/-- what reading a text answers -/
def RdR (W : World) (L : List Stp) (e : Ending) (w' : World) : Prop := (∃ v x, e = .returned (.tuple #[v, .int .i64 x, .int .i64 0]) ∧ RowX w' W.heap.size v L) ∧ Below W.heap.size W w'
set_option maxHeartbeats 8000000 in
set_option maxRecDepth 100000 in
theorem of_calls {w : World} {b n : Nat} {ss : List ByteArray} {T : List (List Stp)} (hn : T.length = n) (hn2 : n ≤ 100) (hb : b < w.heap.size) (hc : ∀ i, i < n → w.cell? ⟨b, i, none⟩ = some (.string (ss.getD i ⟨#[]⟩)))
    (hread : ∀ i, i < n → ∀ W, Calls Tryz.prog 42 #[.string (ss.getD i ⟨#[]⟩)] W (RdR W (T.getD i []))) (hf : FewT T) (hw : ∀ s ∈ (fuseM T).sets, s.wide) (hs : (fuseM T).sets.length ≤ 900) (hl : ∀ i, ((fuseM T).fol.getD i []).length ≤ 1000)
    (hr1 : ∀ i, i < (machB (fuseM T) 50).next.length → 2 ≤ ((machB (fuseM T) 50).next.getD i []).length) (hr2 : 2 ≤ (machB (fuseM T) 50).label.length) :
    Calls Tryz.prog 26 #[.slice (some ⟨b, 0, none⟩) n n] w (RetD w (machB (fuseM T) 50)) := by
  have HC := hidden hc
  have HREAD := hidden hread
  have HF := hidden hf
  have HW := hidden hw
  have HSZ := hidden hs
  have HFL := hidden hl
  have HN := hidden hn
  have HR1 := hidden hr1
  have HR2 := hidden hr2
  have hal := run_zero_dfa
  have HX := hidden (DfaAt.new w zG 0 (.slice none 0 0) (.slice none 0 0))
  obtain ⟨w0, hw0⟩ : ∃ w0, w0 = w.alloc (.cells (dfaC zG 0 (.slice none 0 0) (.slice none 0 0)) 26) := ⟨_, rfl⟩
  have HB0 := hidden (show Below w.heap.size w w0 by rw [hw0]; exact (Below.refl _ _).alloc (Nat.le_refl _) _)
  have hs0 : w0.heap.size = w.heap.size + 1 := by rw [hw0]; simp
  have HS0 := hidden hs0
  rw [← hw0] at HX
  have HTG := hidden (Tg.nil w0 (w.heap.size + 1) hs0.symm _ rfl)
  clear hc hread hf hw hs hl hn hs0 hr1 hr2
  go_enter Tryz.func26, Tryz.ntmps26
  go_wp2
  rw [← hw0]
  clear hw0
  go_loopw [3, 4, 5, 6, 7] (fun tv i _ _ _ wr => ∃ k : Nat, k ≤ n ∧ i = .int .i64 k ∧ Tg w0 (T.take k) tv wr) (fun _ i _ _ _ _ => n - (Go.RowKit.intOf i).toNat)
  case atStart => exact ⟨0, by omega, rfl, by rw [List.take_zero]; exact HTG.out⟩
  case round =>
    obtain ⟨k, hk, rfl, hT⟩ := hrel
    have HT := hidden hT
    clear hT
    by_cases hlt : k < n
    · have c0 := HC.out k hlt
      have c1 := (HT.out.frame.cell (p := ⟨b, k, none⟩) (by have := HS0.out; simp; omega)).trans ((HB0.out.cell (p := ⟨b, k, none⟩) hb).trans c0)
      have HR := hidden (HREAD.out k hlt)
      obtain ⟨s, hs⟩ : ∃ s, s = ss.getD k ⟨#[]⟩ := ⟨_, rfl⟩
      rw [← hs] at c1 HR
      have HTK := hidden (show T.take (k + 1) = T.take k ++ [T.getD k []] from take_moreL T k (by rw [HN.out]; exact hlt))
      have HLK := hidden (show (T.take k).length = k by rw [List.length_take, HN.out]; omega)
      clear hs c0
      obtain ⟨a0, cc0, hv0⟩ := HT.out.form
      subst hv0
      rw [HLK.out]
      rw [HLK.out] at HT
      go_wp2_with fail
      refine (HR.out _).mono ?_
      rintro e w1 ⟨⟨v, x, rfl, hr⟩, hb1⟩
      have HT1 := hidden (HT.out.below hb1)
      have HV1 := hidden hr.typed
      obtain ⟨a1, l1, cc1, rfl⟩ := rowX_slice hr
      clear hr hb1 HR HT c1
      dsimp only
      have HT2 := hidden (HT1.out.below ((Below.refl _ _).alloc (Nat.le_refl _) (.cells #[.string ⟨#[]⟩, .slice a1 l1 cc1, .int .i64 0] 67)))
      have HV2 := hidden (typed_below HV1.out ((Below.refl _ _).alloc (Nat.le_refl _) (.cells #[.string ⟨#[]⟩, .slice a1 l1 cc1, .int .i64 0] 67)))
      go_wp2_with (at_builtin; refine app_tg rfl _ _ rfl rfl HT2.out rfl (heap_alloc_new _ _) rfl rfl rfl HV2.out HLK.out (by omega) ?_; intro g' c' w4 hT4)
      have HT4 := hidden hT4
      clear hT4
      rw [← HTK.out] at HT4
      exact ⟨⟨k + 1, by omega, by go_num, HT4.out⟩, by simp [Go.RowKit.intOf]; omega⟩
    · obtain rfl : k = n := by omega
      rw [List.take_of_length_le (by rw [HN.out]; exact Nat.le_refl _)] at HT
      have HTT := hidden HT.out.toks
      have HX1 := hidden (HX.out.under HT.out.frame HX.out.lt)
      have HB1 := hidden (below_then HB0.out HB0.out.size HT.out.frame)
      have HFU := hidden (rFuse_calls HTT.out (fun b hb => hb) HF.out)
      have hll := HT.out.form
      obtain ⟨a0, cc0, hv0⟩ := hll
      rw [HN.out] at hv0
      subst hv0
      clear hlt HT HTG
      go_wp2_with fail
      refine HFU.out.mono ?_
      rintro e w1 ⟨vs, vo, vl, vf, v1, rfl, hr3, hb3⟩
      have HX2 := hidden (HX1.out.below hb3)
      have HB2 := hidden (below_then HB1.out HB1.out.size hb3)
      have HBU := hidden (rBuild_calls 50 hr3 HW.out HSZ.out HFL.out)
      clear hr3 hb3 HX1 HB1 HFU
      unfold netV
      dsimp only
      go_wp2_with fail
      refine HBU.out.mono ?_
      rintro e w2 ⟨vn, vl, rfl, hr4, hb4⟩
      have HX3 := hidden (HX2.out.below hb4)
      have HB3 := hidden (below_then HB2.out HB2.out.size hb4)
      have HR4 := hidden hr4
      obtain ⟨an, cn, rfl⟩ := hr4.next.form
      obtain ⟨al, cl, rfl⟩ := hr4.label.form
      obtain ⟨D, hD⟩ : ∃ D, D = machB (fuseM T) 50 := ⟨_, rfl⟩
      rw [← hD] at HR4 HR1 HR2 ⊢
      have HDE := hidden hD
      clear hr4 hb4 HX2 HB2 HBU hD
      have hb5 := (Below.refl w2.heap.size w2).alloc (Nat.le_refl _) (.cells (dfaC zG 0 (.slice none 0 0) (.slice none 0 0)) 26)
      have HX4 := hidden (HX3.out.below hb5)
      have hlt := HX3.out.lt
      dsimp only
      go_wp2_with (first
        | (refine store_dfa rfl (x := .tmp 8) (y := .tmp 36) rfl rfl rfl (DfaAt.new w2 zG 0 (.slice none 0 0) (.slice none 0 0)) rfl rfl ?_; intro w5 hA5 hg5 hs5; have HA5 := hidden hA5; have HX5 := hidden (HX4.out.grown hg5 (by simp; omega)); have HB5 := hidden (hb5.grown hg5 (by simp) (by intro k hk; simp only [Option.some.injEq] at hk; omega)); clear hA5 hg5 hs5)
        | (refine load_dfa rfl (x := .tmp 8) rfl rfl HA5.out ?_)
        | (refine wp_load_any (x := .tmp 8) rfl rfl (run_load_dfa HA5.out) ?_)
        | (refine store_dfa rfl (x := .tmp 2) (y := .tmp 39) rfl rfl rfl HX5.out rfl rfl ?_; intro w6 hA6 hg6 hs6; have HA6 := hidden hA6; have HG6 := hidden hg6; clear hA6 hg6 hs6)
        | fail)
      have hw5 : ∀ k, k < w2.heap.size → w5.heap[k]? = w2.heap[k]? := HB5.out.block
      have hz5 := HB5.out.size
      have hB6 : Below w.heap.size w w6 := (below_then HB3.out HB3.out.size HB5.out).grown HG6.out (by omega) (by intro k hk; simp only [Option.some.injEq] at hk; omega)
      refine ret_dfa1 Tryz.results26 rfl rfl HA6.out ?_
      rw [← HDE.out]
      refine ⟨.slice an D.next.length cn, .slice al D.label.length cl, rfl, ?_, hB6⟩
      have hz6 := HG6.out.size
      refine rdDfa_past HR4.out HX3.out (fun k hne hk => ?_) (by omega) HR1.out HR2.out
      rw [HG6.out.block k (by omega) (by intro h; simp at h; omega)]
      exact hw5 k hk
end Go.Proofs.YtnjjbaodfjmiaaaGreat

/- What the reference reads of the chapter's texts. -/
namespace Go.Proofs.YtnjjbaodfjmiaaaGreat
open Go.RowKit Go.Lib Go.Joins

def kbT : ByteArray := ⟨#[91, 98, 45, 100, 93, 43, 99]⟩
def kaT : ByteArray := ⟨#[97]⟩
def kcT : ByteArray := ⟨#[97, 91, 94, 92, 120, 48, 48, 45, 92, 120, 102, 102, 93]⟩
theorem kb_at : At kbT 0 91 ∧ At kbT 1 98 ∧ At kbT 2 45 ∧ At kbT 3 100 ∧ At kbT 4 93 ∧ At kbT 5 43 ∧ At kbT 6 99 :=
  ⟨⟨by decide, rfl⟩, ⟨by decide, rfl⟩, ⟨by decide, rfl⟩, ⟨by decide, rfl⟩, ⟨by decide, rfl⟩, ⟨by decide, rfl⟩, ⟨by decide, rfl⟩⟩
theorem ka_at : At kaT 0 97 := ⟨by decide, rfl⟩
theorem kc_at : (At kcT 0 97 ∧ At kcT 1 91 ∧ At kcT 2 94) ∧ (At kcT 3 92 ∧ At kcT 4 120 ∧ At kcT 5 48 ∧ At kcT 6 48) ∧ At kcT 7 45 ∧ (At kcT 8 92 ∧ At kcT 9 120 ∧ At kcT 10 102 ∧ At kcT 11 102) ∧ At kcT 12 93 :=
  ⟨⟨⟨by decide, rfl⟩, ⟨by decide, rfl⟩, ⟨by decide, rfl⟩⟩, ⟨⟨by decide, rfl⟩, ⟨by decide, rfl⟩, ⟨by decide, rfl⟩, ⟨by decide, rfl⟩⟩, ⟨by decide, rfl⟩, ⟨⟨by decide, rfl⟩, ⟨by decide, rfl⟩, ⟨by decide, rfl⟩, ⟨by decide, rfl⟩⟩, ⟨by decide, rfl⟩⟩
theorem rdC_char {s : ByteArray} {p : Nat} {c : UInt8} (hat : At s p c) (hs : s.size ≤ 1000) (hv : vis c.toNat = true) (h92 : c ≠ 92) (hin : c ∉ RC) (W : World) :
    Calls Tryz.prog 119 #[.string s, .int .i64 (p : Int), .string (txt RC)] W (RdC W (c.toNat : Nat) (p + 1)) :=
  (rchar_at s p c RC W hat hs (by decide) hv h92 hin).mono fun e w' h => by
    obtain ⟨rfl, rfl⟩ := h
    exact ⟨rfl, Below.refl _ _⟩
theorem kb_class (W : World) : Calls Tryz.prog 118 #[.string kbT, .int .i64 ((0 : Nat) : Int)] W (RdK W (clR false 98 100) 5) := by
  obtain ⟨a0, a1, a2, a3, a4, a5, a6⟩ := kb_at
  exact rclass_calls kbT 0 1 2 4 98 100 false W (by decide) 98 a1 ⟨by decide, rfl⟩ (fun W => rdC_char a1 (by decide) (by decide) (by decide) (by decide) W) a2 (fun W => rdC_char a3 (by decide) (by decide) (by decide) (by decide) W) a4 (by decide) (by decide)
theorem kc_class (W : World) : Calls Tryz.prog 118 #[.string kcT, .int .i64 ((1 : Nat) : Int)] W (RdK W (clR true 0 255) 13) := by
  obtain ⟨⟨a0, a1, a2⟩, ⟨a3, a4, a5, a6⟩, a7, ⟨a8, a9, a10, a11⟩, a12⟩ := kc_at
  exact rclass_calls kcT 1 3 7 12 0 255 true W (by decide) 94 a2 ⟨rfl, rfl⟩
    (fun W => rchar_esc kcT 3 0 7 RC W a3 (resc_at kcT 3 48 48 0 W (by decide) a4 a5 a6 (by unfold isHex; decide) (by unfold isHex; decide) (by decide +kernel))) a7
    (fun W => rchar_esc kcT 8 255 12 RC W a8 (resc_at kcT 8 102 102 255 W (by decide) a9 a10 a11 (by unfold isHex; decide) (by unfold isHex; decide) (by decide +kernel))) a12 (by decide) (by decide)
theorem kb_branch (w : World) : Calls Tryz.prog 88 #[.string kbT, .int .i64 ((0 : Nat) : Int)] w (Rd w kbL 7) := by
  obtain ⟨a0, a1, a2, a3, a4, a5, a6⟩ := kb_at
  refine rbranch_calls kbT w (by decide) [⟨0, 5, 43, [sStp (clR false 98 100)]⟩, ⟨6, 7, 0, [bS 99]⟩] 0 (by decide) (fun j => if j = 0 then 0 else if j = 1 then 6 else 7) rfl ?_ ?_ (.inl rfl) (by decide)
  · intro j hj
    have hj' : j = 0 ∨ j = 1 := by simp at hj; omega
    rcases hj' with rfl | rfl
    · exact ⟨_, rfl, ⟨by decide, ⟨91, a0, by decide, by decide⟩, fun W _ => ratom_class kbT 0 5 _ W a0 kb_class, ⟨.inr (.inl rfl), a5, .inr ⟨99, a6, by decide⟩⟩, by decide, by decide⟩, rfl, rfl⟩
    · exact ⟨_, rfl, ⟨by decide, ⟨99, a6, by decide, by decide⟩, fun W _ => ratom_at kbT 6 99 W a6 (by decide) (k_plain 99 (.inr (.inr rfl))), .inl rfl, by decide, by decide⟩, rfl, rfl⟩
  · intro j hj
    have : kbT.size = 7 := rfl
    rw [this]
    split
    · omega
    · split <;> omega
theorem ka_branch (w : World) : Calls Tryz.prog 88 #[.string kaT, .int .i64 ((0 : Nat) : Int)] w (Rd w kaL 1) := by
  refine rbranch_calls kaT w (by decide) [⟨0, 1, 0, [bS 97]⟩] 0 (by decide) (fun j => j) rfl ?_ ?_ (.inl rfl) (by decide)
  · intro j hj
    obtain rfl : j = 0 := by simpa using hj
    exact ⟨_, rfl, ⟨by decide, ⟨97, ka_at, by decide, by decide⟩, fun W _ => ratom_at kaT 0 97 W ka_at (by decide) (k_plain 97 (.inl rfl)), .inl rfl, by decide, by decide⟩, rfl, rfl⟩
  · intro j hj
    have : kaT.size = 1 := rfl
    rw [this]
    exact hj
theorem kc_branch (w : World) : Calls Tryz.prog 88 #[.string kcT, .int .i64 ((0 : Nat) : Int)] w (Rd w kcL 13) := by
  obtain ⟨⟨a0, a1, a2⟩, ⟨a3, a4, a5, a6⟩, a7, ⟨a8, a9, a10, a11⟩, a12⟩ := kc_at
  refine rbranch_calls kcT w (by decide) [⟨0, 1, 0, [bS 97]⟩, ⟨1, 13, 0, [sStp (clR true 0 255)]⟩] 0 (by decide) (fun j => if j = 0 then 0 else if j = 1 then 1 else 13) rfl ?_ ?_ (.inl rfl) (by decide)
  · intro j hj
    have hj' : j = 0 ∨ j = 1 := by simp at hj; omega
    rcases hj' with rfl | rfl
    · exact ⟨_, rfl, ⟨by decide, ⟨97, a0, by decide, by decide⟩, fun W _ => ratom_at kcT 0 97 W a0 (by decide) (k_plain 97 (.inl rfl)), .inr ⟨91, a1, by decide⟩, by decide, by decide⟩, rfl, rfl⟩
    · exact ⟨_, rfl, ⟨by decide, ⟨91, a1, by decide, by decide⟩, fun W _ => ratom_class kcT 1 13 _ W a1 kc_class, .inl rfl, by decide, by decide⟩, rfl, rfl⟩
  · intro j hj
    have : kcT.size = 13 := rfl
    rw [this]
    split
    · omega
    · split <;> omega
theorem kb_text (w : World) : Calls Tryz.prog 61 #[.string kbT, .int .i64 ((0 : Nat) : Int)] w (Rd w kbL 7) :=
  rtext_calls kbT w (by decide) ⟨0, 7, kbL⟩ [] (by decide) ⟨by decide, by decide, fun W _ => kb_branch W⟩ (fun _ => 7) rfl (fun j hj => by simp at hj) (fun _ _ => by decide) (.inl rfl) (by decide)
theorem ka_text (w : World) : Calls Tryz.prog 61 #[.string kaT, .int .i64 ((0 : Nat) : Int)] w (Rd w kaL 1) :=
  rtext_calls kaT w (by decide) ⟨0, 1, kaL⟩ [] (by decide) ⟨by decide, by decide, fun W _ => ka_branch W⟩ (fun _ => 1) rfl (fun j hj => by simp at hj) (fun _ _ => by decide) (.inl rfl) (by decide)
theorem kc_text (w : World) : Calls Tryz.prog 61 #[.string kcT, .int .i64 ((0 : Nat) : Int)] w (Rd w kcL 13) :=
  rtext_calls kcT w (by decide) ⟨0, 13, kcL⟩ [] (by decide) ⟨by decide, by decide, fun W _ => kc_branch W⟩ (fun _ => 13) rfl (fun j hj => by simp at hj) (fun _ _ => by decide) (.inl rfl) (by decide)
set_option maxHeartbeats 1000000 in
set_option maxRecDepth 100000 in
theorem read_any (s : ByteArray) (L : List Stp) (w : World) (n m : Nat) (hn : s.size = n) (hn2 : n ≤ 1000) (hm : L.length = m) (hm2 : m ≤ 500) (hm0 : 0 < m) (H : Calls Tryz.prog 61 #[.string s, .int .i64 ((0 : Nat) : Int)] w (Rd w L n)) :
    Calls Tryz.prog 42 #[.string s] w (RdR w L) := by
  have HT := hidden H
  subst hn
  have HM := hidden hm
  clear H hm
  have q0 : decide ((4096 : Int) < (s.size : Int)) = false := decide_eq_false (by omega)
  have q1 : decide ((512 : Int) < (m : Int)) = false := decide_eq_false (by omega)
  go_enter Tryz.func42, Tryz.ntmps42
  go_wp2_with fail
  refine HT.out.mono ?_
  rintro e w1 ⟨v, rfl, hr, hb1⟩
  obtain ⟨a1, c1, rfl⟩ : ∃ a c, v = .slice a m c := by
    rcases ownsRow_forms hr with ⟨rfl, h0⟩ | ⟨g, cap, rfl⟩
    · have := HM.out
      omega
    · exact ⟨_, _, by rw [HM.out]⟩
  go_wp2
  go_ret3
  exact ⟨⟨_, _, rfl, hr⟩, hb1⟩
theorem kb_read (w : World) : Calls Tryz.prog 42 #[.string kbT] w (RdR w kbL) := read_any kbT kbL w 7 4 rfl (by decide) rfl (by decide) (by decide) (kb_text w)
theorem ka_read (w : World) : Calls Tryz.prog 42 #[.string kaT] w (RdR w kaL) := read_any kaT kaL w 1 1 rfl (by decide) rfl (by decide) (by decide) (ka_text w)
theorem kc_read (w : World) : Calls Tryz.prog 42 #[.string kcT] w (RdR w kcL) := read_any kcT kcL w 13 3 rfl (by decide) rfl (by decide) (by decide) (kc_text w)
end Go.Proofs.YtnjjbaodfjmiaaaGreat

/- Contract of the program's sources: for each state those that lead to it. -/
namespace Go.Proofs.YtnjjbaodfjmiaaaGreat
open Go.RowKit Go.Lib Go.Joins

/-- rows of numbers, each of its own, behind a row of slices -/
structure SrSt (base : Nat) (w0 w : World) (B : Nat) (us : List Value) (L : List (List Int)) : Prop where
  o : RowAt w B 24 (fun v => v) us
  len : us.length = L.length
  r : ∀ i, i < L.length → RowZ w base (us.getD i undef) (L.getD i [])
  ne : ∀ i j, i < L.length → j < L.length → i ≠ j → ∀ k, (us.getD i undef).ownBlock = some k → (us.getD j undef).ownBlock ≠ some k
  b : Below base w0 w
  lo : base ≤ B
  s : base ≤ w.heap.size
theorem SrSt.kept {base : Nat} {w0 w w' : World} {B : Nat} {us : List Value} {L : List (List Int)} (h : SrSt base w0 w B us L) (hb : Below w.heap.size w w') : SrSt base w0 w' B us L :=
  ⟨h.o.below hb, h.len, fun i hi => (h.r i hi).kept hb, h.ne, below_then h.b h.s hb, h.lo, Nat.le_trans h.s hb.size⟩
theorem getD_set_ne {α : Type} (l : List α) {i j : Nat} (v d : α) (h : i ≠ j) : (l.set i v).getD j d = l.getD j d := by
  rw [List.getD_eq_getElem?_getD, List.getElem?_set_ne h, ← List.getD_eq_getElem?_getD]
theorem getD_set_eq {α : Type} (l : List α) {i : Nat} (v d : α) (h : i < l.length) : (l.set i v).getD i d = v := by
  rw [List.getD_eq_getElem?_getD, List.getElem?_set_self h]
  rfl
theorem SrSt.put {base : Nat} {w0 w w1 : World} {B : Nat} {us : List Value} {L : List (List Int)} (h : SrSt base w0 w B us L) {i : Nat} (hi : i < L.length) {v' : Value} {x : Int} (hA : Appd w w1 base 3 1 (us.getD i undef) v' ((L.getD i []).length + 1) ((L.getD i []).map (Value.int .i64) ++ [.int .i64 x])) :
    SrSt base w0 (w1.setCell ⟨B, i, none⟩ v') B (us.set i v') (L.set i (L.getD i [] ++ [x])) := by
  have hr := h.r i hi
  have ho1 : RowAt w1 B 24 (fun v => v) us := h.o.grown hA.grown (hr.off h.o (by decide))
  have hv' : RowZ w1 base v' (L.getD i [] ++ [x]) := by
    unfold RowZ
    rw [List.length_append, List.map_append]
    exact hA.own
  have hoff : ∀ {v : Value} {l : List Int}, RowZ w1 base v l → RowZ (w1.setCell ⟨B, i, none⟩ v') base v l := fun hz => hz.grownOff (setCell_grown w1 B i v') fun k e e2 => hz.off ho1 (by decide) (by rw [e]; exact e2.symm)
  have hfar : ∀ j, j < L.length → i ≠ j → ∀ k, (us.getD j undef).ownBlock = some k → v'.ownBlock ≠ some k := fun j hj hij k hk e => by
    rcases hA.lies with e2 | e2
    · rw [e2] at e
      exact h.ne i j hi hj hij k e hk
    · rw [e2] at e
      obtain ⟨_, cs, fr, hb⟩ := (h.r j hj).isRow hk
      have := (Array.getElem?_eq_some_iff.1 hb).1
      simp only [Option.some.injEq] at e
      omega
  refine ⟨ho1.set i v', by rw [List.length_set, List.length_set]; exact h.len, fun j hj => ?_, fun a b ha hb hab k hk => ?_, (h.b.grown hA.grown h.s fun k e => (hr.isRow e).1).setCell (p := ⟨B, i, none⟩) h.lo _, h.lo, by have := hA.grown.size; have := h.s; simp; omega⟩
  · rw [List.length_set] at hj
    by_cases hij : i = j
    · subst hij
      rw [getD_set_eq _ _ _ (by rw [h.len]; exact hi), getD_set_eq _ _ _ hi]
      exact hoff hv'
    · rw [getD_set_ne _ _ _ hij, getD_set_ne _ _ _ hij]
      refine hoff ((h.r j hj).grownOff hA.grown fun k e => ?_)
      exact fun e2 => h.ne i j hi hj hij k e2 e
  · rw [List.length_set] at ha hb
    by_cases h1 : i = a
    · subst h1
      rw [getD_set_eq _ _ _ (by rw [h.len]; exact hi)] at hk
      rw [getD_set_ne _ _ _ hab]
      exact fun e => hfar b hb hab k e hk
    · rw [getD_set_ne _ _ _ h1] at hk
      by_cases h2 : i = b
      · subst h2
        rw [getD_set_eq _ _ _ (by rw [h.len]; exact hi)]
        exact hfar a ha h1 k hk
      · rw [getD_set_ne _ _ _ h2]
        exact h.ne a b ha hb hab k hk
/-- what is in the rows behind c classes of the row of state s -/
structure SrcOk (D : DfaM) (n : Nat) (L : List (List Int)) (s c : Nat) : Prop where
  len : L.length = n
  mem : ∀ j, j < n → ∀ x, x ∈ L.getD j [] ↔ ∃ i : Nat, x = i ∧ ((i < s ∧ Edge D i j) ∨ (i = s ∧ ∃ d, d < c ∧ toD D s d = (j : Int)))
  short : ∀ j, j < n → (L.getD j []).length ≤ s ∨ ((L.getD j []).length ≤ s + 1 ∧ (L.getD j []).getLast? = some (s : Int))
section
variable {D : DfaM} {n : Nat} {L : List (List Int)} {s c : Nat}
theorem SrcOk.start (n : Nat) : SrcOk D n (List.replicate n []) 0 0 := by
  have h0 : ∀ j, (List.replicate n ([] : List Int)).getD j [] = [] := fun j => by
    rw [List.getD_eq_getElem?_getD, List.getElem?_replicate]
    split <;> rfl
  refine ⟨by simp, fun j hj x => ?_, fun j hj => .inl (by rw [h0]; exact Nat.le_refl _)⟩
  rw [h0]
  constructor
  · intro h; cases h
  · rintro ⟨i, _, h | ⟨_, d, h, _⟩⟩ <;> omega
theorem SrcOk.row (h : SrcOk D n L s c) (hc : c = D.width.toNat) : SrcOk D n L (s + 1) 0 := by
  refine ⟨h.len, fun j hj x => ?_, fun j hj => .inl (by rcases h.short j hj with h | h <;> omega)⟩
  rw [h.mem j hj]
  constructor
  · rintro ⟨i, rfl, ⟨h1, h2⟩ | ⟨rfl, d, hd, he⟩⟩
    · exact ⟨i, rfl, .inl ⟨by omega, h2⟩⟩
    · exact ⟨i, rfl, .inl ⟨by omega, d, by omega, he⟩⟩
  · rintro ⟨i, rfl, ⟨h1, h2⟩ | ⟨_, d, hd, _⟩⟩
    · by_cases e : i = s
      · subst e
        obtain ⟨d, hd, he⟩ := h2
        exact ⟨i, rfl, .inr ⟨rfl, d, by omega, he⟩⟩
      · exact ⟨i, rfl, .inl ⟨by omega, h2⟩⟩
    · omega
theorem SrcOk.skip (h : SrcOk D n L s c) (hx : toD D s c < 0 ∨ ∃ y : Nat, toD D s c = y ∧ (s : Int) ∈ L.getD y []) : SrcOk D n L s (c + 1) := by
  refine ⟨h.len, fun j hj x => ?_, h.short⟩
  rw [h.mem j hj]
  constructor
  · rintro ⟨i, rfl, h1 | ⟨rfl, d, hd, he⟩⟩
    · exact ⟨i, rfl, .inl h1⟩
    · exact ⟨i, rfl, .inr ⟨rfl, d, by omega, he⟩⟩
  · rintro ⟨i, rfl, h1 | ⟨rfl, d, hd, he⟩⟩
    · exact ⟨i, rfl, .inl h1⟩
    · by_cases e : d = c
      · subst e
        rcases hx with hx | ⟨y, hy, hm⟩
        · omega
        · obtain rfl : y = j := by omega
          exact (h.mem y hj _).1 hm
      · exact ⟨i, rfl, .inr ⟨rfl, d, by omega, he⟩⟩
theorem SrcOk.add (h : SrcOk D n L s c) {y : Nat} (hy : toD D s c = y) (_hyn : y < n) (hl : (L.getD y []).getLast? ≠ some (s : Int)) : SrcOk D n (L.set y (L.getD y [] ++ [(s : Int)])) s (c + 1) := by
  refine ⟨by rw [List.length_set]; exact h.len, fun j hj x => ?_, fun j hj => ?_⟩
  · by_cases e : y = j
    · subst e
      rw [getD_set_eq _ _ _ (by rw [h.len]; exact hj), List.mem_append, h.mem y hj, List.mem_singleton]
      constructor
      · rintro (⟨i, rfl, h1 | ⟨rfl, d, hd, he⟩⟩ | rfl)
        · exact ⟨i, rfl, .inl h1⟩
        · exact ⟨i, rfl, .inr ⟨rfl, d, by omega, he⟩⟩
        · exact ⟨s, rfl, .inr ⟨rfl, c, by omega, hy⟩⟩
      · rintro ⟨i, rfl, h1 | ⟨rfl, d, hd, he⟩⟩
        · exact .inl ⟨i, rfl, .inl h1⟩
        · exact .inr rfl
    · rw [getD_set_ne _ _ _ e, h.mem j hj]
      constructor
      · rintro ⟨i, rfl, h1 | ⟨rfl, d, hd, he⟩⟩
        · exact ⟨i, rfl, .inl h1⟩
        · exact ⟨i, rfl, .inr ⟨rfl, d, by omega, he⟩⟩
      · rintro ⟨i, rfl, h1 | ⟨rfl, d, hd, he⟩⟩
        · exact ⟨i, rfl, .inl h1⟩
        · by_cases e2 : d = c
          · subst e2; omega
          · exact ⟨i, rfl, .inr ⟨rfl, d, by omega, he⟩⟩
  · by_cases e : y = j
    · subst e
      rw [getD_set_eq _ _ _ (by rw [h.len]; exact hj)]
      right
      rcases h.short y hj with h1 | h1
      · exact ⟨by rw [List.length_append, List.length_singleton]; omega, by simp⟩
      · exact absurd h1.2 hl
    · rw [getD_set_ne _ _ _ e]
      exact h.short j hj
end
/-- a row of slices is made -/
theorem run_make_zz (w : World) (n : Nat) (hn : n ≤ 100000) : (Instr.makeSlice 23 (.int .i64 (n : Int)) (.int .i64 (n : Int))).run Tryz.prog w = .ok (.slice (some ⟨w.heap.size, 0, none⟩) n n) (w.alloc (.cells (Array.replicate n (Value.slice none 0 0)) 24)) := by
  obtain ⟨i0, hi, hz0, hz1, hz2⟩ := info_parts (show (Tryz.prog.info? 24).map (fun i => (i.zero, i.size, i.bytes)) = some (some (.slice none 0 0), 1, 24) by kernel_rfl)
  have := run_make (P := Tryz.prog) w 23 24 i0 _ Tryz.underlying23 hi hz0 .i64 .i64 (n : Int) (n : Int) (by omega) (by omega) (by rw [hz2]; omega) (by omega)
  rw [hz1, Nat.mul_one, Int.toNat_natCast] at this
  rw [this, show (Value.slice none 0 0).cells = #[.slice none 0 0] from rfl, madeOne, List.toArray_replicate]
theorem last_at {l : List Int} {m : Nat} (h : l.length = m + 1) : l.getLast? = some (l.getD m 0) := by
  rw [List.getLast?_eq_getElem?, h, Nat.add_sub_cancel, List.getD_eq_getElem?_getD, List.getElem?_eq_getElem (by omega)]
  rfl
theorem RowZ.cellZ {w : World} {base n c : Nat} {a : Option Addr} {l : List Int} (h : RowZ w base (.slice a n c) l) {i : Nat} (hi : i < l.length) : ∃ g, a = some ⟨g, 0, none⟩ ∧ w.cell? ⟨g, i, none⟩ = some (.int .i64 (l.getD i 0)) := by
  rcases ownsRow_forms h with ⟨_, h0⟩ | ⟨g, cap, e⟩
  · omega
  · simp only [Value.slice.injEq] at e
    obtain ⟨rfl, rfl, rfl⟩ := e
    refine ⟨g, rfl, ?_⟩
    have hc := World.ownsRow.cells (g := g) h rfl i (.int .i64 (l.getD i 0)) ?_
    · rw [Addr.add_lit, Nat.zero_add] at hc
      exact hc
    rw [List.getElem?_map, List.getElem?_eq_getElem hi, List.getD_eq_getElem?_getD, List.getElem?_eq_getElem hi]
    rfl
/-- what sources hands out -/
def RetSrc (w : World) (D : DfaM) (e : Ending) (w' : World) : Prop := ∃ B us L, e = .returned (.slice (some ⟨B, 0, none⟩) D.next.length D.next.length) ∧ SrSt w.heap.size w w' B us L ∧ SrcOk D D.next.length L D.next.length 0
set_option maxHeartbeats 8000000 in
set_option maxRecDepth 100000 in
theorem sources_calls {w : World} {vn vl : Value} {D : DfaM} (hR : rightD D = true) (h : RdDfa w.heap.size w vn vl D) (hN : D.next.length ≤ 1000) :
    Calls Tryz.prog 50 #[dfaA D.cls D.width vn vl] w (RetSrc w D) := by
  obtain ⟨an, cn, rfl⟩ := h.next.form
  obtain ⟨n, hn⟩ : ∃ n, n = D.next.length := ⟨_, rfl⟩
  have hbx := run_box_dfa D.cls D.width (.slice an D.next.length cn) vl
  have HX := hidden (DfaAt.new w D.cls D.width (.slice an D.next.length cn) vl)
  have hm := run_make_zz (w.alloc (.cells (dfaC D.cls D.width (.slice an D.next.length cn) vl) 26)) n (by omega)
  have e2 := HX.out.next
  have hsz : (w.alloc (.cells (dfaC D.cls D.width (.slice an D.next.length cn) vl) 26)).heap.size = w.heap.size + 1 := by simp
  have hb0 : Below w.heap.size w (w.alloc (.cells (dfaC D.cls D.width (.slice an D.next.length cn) vl) 26)) := (Below.refl w.heap.size w).alloc (Nat.le_refl _) _
  obtain ⟨W, hW, hWn⟩ := rch_width hR
  unfold RetSrc
  rw [← hn] at h hN hbx HX e2 hb0 hm hsz ⊢
  have hm2 := hm
  rw [hsz] at hm2
  have HN := hidden hn
  have HD := hidden h
  have HRT := hidden hR
  have HW := hidden hW
  have HWN := hidden hWn
  have HXb := hidden (HX.out.alloc (.cells (Array.replicate n (Value.slice none 0 0)) 24))
  have hS0 : SrSt w.heap.size w ((w.alloc (.cells (dfaC D.cls D.width (.slice an n cn) vl) 26)).alloc (.cells (Array.replicate n (Value.slice none 0 0)) 24)) (w.heap.size + 1) (List.replicate n (Value.slice none 0 0)) (List.replicate n []) := by
    have hu : ∀ i, i < n → (List.replicate n (Value.slice none 0 0)).getD i undef = .slice none 0 0 := fun i hi => by
      rw [List.getD_eq_getElem?_getD, List.getElem?_replicate, if_pos hi]; rfl
    refine ⟨RowAt.newAt (by simp) (by rw [List.map_replicate, List.toArray_replicate]), by simp, fun i hi => ?_, fun i j hi hj hij k hk => ?_, hb0.alloc (by simp) _, by omega, by simp; omega⟩
    · rw [List.length_replicate] at hi
      rw [hu i hi, List.getD_eq_getElem?_getD, List.getElem?_replicate, if_pos hi]
      exact RowZ.nil _ _
    · rw [List.length_replicate] at hi
      rw [hu i hi] at hk
      cases hk
  have HS0 := hidden hS0
  have hwid : W ≤ 256 := (by
    have h2 := (rightD_spec hR).2.1
    have := wid_le D.cls 256 256 h.small
    omega)
  clear hb0 h hR hn hW hWn hS0
  go_enter Tryz.func50, Tryz.ntmps50
  have e3 := HXb.out.next
  go_wp2
  obtain ⟨wa, hwa⟩ : ∃ wa, wa = (w.alloc (.cells (dfaC D.cls D.width (.slice an n cn) vl) 26)).alloc (.cells (Array.replicate n (Value.slice none 0 0)) 24) := ⟨_, rfl⟩
  rw [← hwa] at HS0 HXb ⊢
  obtain ⟨B, hB⟩ : ∃ B, B = w.heap.size + 1 := ⟨_, rfl⟩
  rw [← hB] at HS0 ⊢
  clear hwa hB hbx hm hm2 hsz e2 e3 HX HXb
  go_loopw [16] (fun iv wr => ∃ (s : Nat) (us : List Value) (L : List (List Int)), s ≤ n ∧ iv = .int .i64 s ∧ SrSt w.heap.size w wr B us L ∧ SrcOk D n L s 0) (fun i _ => n - (Go.RowKit.intOf i).toNat)
  case atStart => exact ⟨0, _, _, by omega, rfl, HS0.out, SrcOk.start n⟩
  case round =>
    obtain ⟨s, us, L, hs, rfl, hS, hO⟩ := hrel
    have HS := hidden hS
    have HO := hidden hO
    by_cases hlt : s < n
    · obtain ⟨b, ro, b2, off2, c', han, q0, hbl, hb2l, q2⟩ := HD.out.row HRT.out HW.out (Below.refl _ _) s (by rw [← HN.out]; exact hlt)
      subst han
      have q1 := (hS.b.cell (p := ⟨b, ro + s, none⟩) hbl).trans q0
      have HB2 := hidden hb2l
      have HQ2 := hidden q2
      clear q0 q2
      clear hS hO HS0
      go_wp2
      go_loopw [23] (fun iv wr => ∃ (c : Nat) (us : List Value) (L : List (List Int)), c ≤ W ∧ iv = .int .i64 c ∧ SrSt w.heap.size w wr B us L ∧ SrcOk D n L s c) (fun i _ => W - (Go.RowKit.intOf i).toNat)
      case atStart => exact ⟨0, _, _, by omega, rfl, HS.out, HO.out⟩
      case round =>
        obtain ⟨c, us, L, hc, rfl, hS, hO⟩ := hrel
        have HS := hidden hS
        have HO := hidden hO
        by_cases hcw : c < W
        · have r2 := (hS.b.cell (p := ⟨b2, off2 + c, none⟩) HB2.out).trans (HQ2.out c hcw)
          have hin := to_in HRT.out (i := s) (c := c) (by rw [← HN.out]; exact hlt) (by rw [HWN.out]; exact hcw)
          rw [← HN.out] at hin
          have HSK := hidden (hO.skip)
          have HAD := hidden (fun y hy => hO.add (y := y) hy)
          obtain ⟨x, hx⟩ : ∃ x, x = toD D s c := ⟨_, rfl⟩
          rw [← hx] at r2 hin HSK HAD
          clear hS hO hx
          by_cases hx0 : x < 0
          · obtain rfl : x = -1 := by omega
            have HO2 := hidden (HSK.out (.inl (by omega)))
            clear hin hx0
            go_wp2
            go_roundw
            case rel => exact ⟨c + 1, us, L, by omega, by go_num, HS.out, HO2.out⟩
            case measure => simp [Go.RowKit.intOf]; omega
          · obtain ⟨y, rfl⟩ : ∃ y : Nat, x = y := ⟨x.toNat, by omega⟩
            have hyn : y < n := by omega
            have hyL : y < L.length := by rw [HO.out.len]; exact hyn
            have q9 : ((y : Int) == -1) = false := by simp <;> omega
            have q9' : decide ((y : Int) = -1) = false := by simp <;> omega
            have hrow := HS.out.r y hyL
            have u0 := HS.out.o.cell (i := y) (by rw [HS.out.len]; exact hyL) undef
            obtain ⟨va, vc, hv⟩ := hrow.form
            rw [hv] at hrow u0
            obtain ⟨l, hl⟩ : ∃ l, l = L.getD y [] := ⟨_, rfl⟩
            rw [← hl] at hrow u0
            have HLL := hidden hl
            have f0 := HS.out.o.frozen y
            have hsh := HO.out.short y hyn
            have HAD2 := hidden (HAD.out y rfl hyn)
            rw [← hl] at hsh HAD2 hv
            have HVV := hidden hv
            obtain ⟨m, hm⟩ : ∃ m, m = l.length := ⟨_, rfl⟩
            rw [← hm] at u0 hsh hrow HVV
            have hml : m ≤ 1001 := by omega
            have hal : Below wr.heap.size wr (wr.alloc (.cells #[.int .i64 (s : Nat)] 3)) := (Below.refl _ _).alloc (Nat.le_refl _) _
            have HSa := hidden (HS.out.kept hal)
            have HRA := hidden (show (wr.alloc (.cells #[.int .i64 (s : Nat)] 3)).ownsRow w.heap.size 3 1 (.slice va m vc) m (l.map (Value.int .i64)) from by have := hrow.kept hal; unfold RowZ at this; rw [← hm] at this; exact this)
            have HI := hidden infoInt
            have HBS := hidden HSa.out.s
            have HLNB := hidden (show m + 1 ≤ 1000000 by omega)
            have HM := hidden hm
            have HYL := hidden hyL
            have HFIN := hidden (show ∀ v13 w13, Appd (wr.alloc (.cells #[.int .i64 (s : Nat)] 3)) w13 w.heap.size 3 1 (.slice va m vc) v13 (m + 1) (l.map (Value.int .i64) ++ [.int .i64 (s : Nat)]) → SrSt w.heap.size w (w13.setCell ⟨B, y, none⟩ v13) B (us.set y v13) (L.set y (l ++ [(s : Int)])) ∧ RowAt w13 B 24 (fun v => v) us from fun v13 w13 hA => by
              refine ⟨?_, HSa.out.o.grown hA.grown ?_⟩
              · have := HSa.out.put HYL.out (v' := v13) (x := (s : Int)) (w1 := w13) (by rw [HVV.out, ← HLL.out, ← HM.out]; exact hA)
                rw [← HLL.out] at this
                exact this
              · have := (HSa.out.r y HYL.out).off HSa.out.o (by decide)
                rw [HVV.out] at this
                exact this)
            have HUL := hidden (show y < us.length by rw [HS.out.len]; exact hyL)
            clear hin hx0 hv hsh hal hyL hl
            have hyd : (y : Int) < (n : Int) := by omega
            have app : True := trivial
            rcases Nat.eq_zero_or_pos m with h0 | h0
            · subst h0
              have HO2 := hidden (HAD2.out (by rw [List.eq_nil_of_length_eq_zero hm.symm]; simp))
              clear hm hrow
              go_wp2_with (at_builtin; (first | refine wpList_app (v := .slice va 0 vc) rfl _ _ rfl HI.out Tryz.underlying24 rfl (by decide) (by decide) rfl HRA.out rfl (Src.one wr (.int .i64 (s : Nat)) 3 _ rfl) (by simp) (by simp [Value.oneCell']) HLNB.out HBS.out ?_ | refine wp_app (v := .slice va 0 vc) _ _ rfl HI.out Tryz.underlying24 rfl (by decide) (by decide) rfl HRA.out rfl (Src.one wr (.int .i64 (s : Nat)) 3 _ rfl) (by simp) (by simp [Value.oneCell']) HLNB.out HBS.out ?_); intro v13 w13 hA; have HF := hidden (HFIN.out v13 w13 hA); obtain ⟨a13, c13, hv13⟩ := row_slice14 hA.own; subst hv13; have k3 := HF.out.2.cell HUL.out undef; have k4 := HF.out.2.frozen y; clear hA)
              go_roundw
              case rel => exact ⟨c + 1, _, _, by omega, by go_num, HF.out.1, HO2.out⟩
              case measure => simp [Go.RowKit.intOf]; omega
            · obtain ⟨k, rfl⟩ : ∃ k, m = k + 1 := ⟨m - 1, by omega⟩
              obtain ⟨g, hg, c0⟩ := hrow.cellZ (i := k) (by omega)
              subst hg
              have HLA := hidden (last_at hm.symm)
              have HZM := hidden (show l.getD k 0 ∈ l from getD_mem (by omega))
              obtain ⟨z, hz⟩ : ∃ z, z = l.getD k 0 := ⟨_, rfl⟩
              rw [← hz] at c0 HLA HZM
              have hkp : ((k : Int) + 1 == 0) = false := by simp; omega
              have hkp2 : decide ((k : Int) + 1 = 0) = false := by simp; omega
              clear hm hrow hz h0
              by_cases hzs : z = (s : Int)
              · subst hzs
                have HO2 := hidden (HSK.out (.inr ⟨y, rfl, by rw [← HLL.out]; exact HZM.out⟩))
                go_wp2
                go_roundw
                case rel => exact ⟨c + 1, us, L, by omega, by go_num, HS.out, HO2.out⟩
                case measure => simp [Go.RowKit.intOf]; omega
              · have HO2 := hidden (HAD2.out (by rw [HLA.out]; simpa using hzs))
                have z1 : (z == (s : Int)) = false := by simpa using hzs
                have z2 : (z != (s : Int)) = true := by simpa using hzs
                have z3 : decide (z = (s : Int)) = false := by simpa using hzs
                clear hzs
                go_wp2_with (at_builtin; (first | refine wpList_app (v := .slice (some ⟨g, 0, none⟩) (k + 1) vc) rfl _ _ rfl HI.out Tryz.underlying24 rfl (by decide) (by decide) rfl HRA.out rfl (Src.one wr (.int .i64 (s : Nat)) 3 _ rfl) (by simp) (by simp [Value.oneCell']) HLNB.out HBS.out ?_ | refine wp_app (v := .slice (some ⟨g, 0, none⟩) (k + 1) vc) _ _ rfl HI.out Tryz.underlying24 rfl (by decide) (by decide) rfl HRA.out rfl (Src.one wr (.int .i64 (s : Nat)) 3 _ rfl) (by simp) (by simp [Value.oneCell']) HLNB.out HBS.out ?_); intro v13 w13 hA; have HF := hidden (HFIN.out v13 w13 hA); obtain ⟨a13, c13, hv13⟩ := row_slice14 hA.own; subst hv13; have k3 := HF.out.2.cell HUL.out undef; have k4 := HF.out.2.frozen y; clear hA)
                go_roundw
                case rel => exact ⟨c + 1, _, _, by omega, by go_num, HF.out.1, HO2.out⟩
                case measure => simp [Go.RowKit.intOf]; omega
        · obtain rfl : c = W := by omega
          have HO2 := hidden (hO.row HWN.out.symm)
          clear hS hO
          go_wp2
          go_roundw
          case rel => exact ⟨s + 1, _, _, by omega, by go_num, HS.out, HO2.out⟩
          case measure => simp [Go.RowKit.intOf]; omega
    · obtain rfl : s = n := by omega
      clear hS hO
      go_wp2
      go_ret
      exact ⟨B, us, L, rfl, HS.out, HO.out⟩
end Go.Proofs.YtnjjbaodfjmiaaaGreat
