/- FuLaw, FuRFuse, FuRMath, put together. -/
import Derived.Test.YtbokhofdgdcpdaaDoorFu34
import Derived.Test.YtbokhofdgdcpdaaDoorFu32
import Derived.Test.YtbokhofdgdcpdaaDoorFu30
import Derived.Test.YtbokhofdgdcpdaaDoorFu10
/- What the laws over tokens know of a world: a net in a box, the tokens, the table. -/
namespace Go.Proofs.YtbokhofdgdcpdaaDoor
open Go.RowKit Go.Lib Go.Joins
structure KV (w0 : World) (n0 : Nat) (vs vo vl vf v1 : Value) (N : NetM) (v : Value) (T : List (List Stp)) (w : World) : Prop where
  b : Below w0.heap.size w0 w
  n : w.heap[n0]? = some (.cells #[vs, vo, vl, vf, v1] 48 (0, 0))
  r : RdNet w.heap.size w vs vo vl vf v1 N
  t : Toks (fun b => b < w.heap.size) w v T
  tab : Tab w
theorem KV.more {w0 w w' : World} {n0 : Nat} {vs vo vl vf v1 v : Value} {N : NetM} {T : List (List Stp)} (h : KV w0 n0 vs vo vl vf v1 N v T w) (hb : Below w.heap.size w w') : KV w0 n0 vs vo vl vf v1 N v T w' :=
  ⟨below_after h.b hb, (hb.block n0 (Array.getElem?_eq_some_iff.1 h.n).1).trans h.n, h.r.later hb, h.t.later hb, h.tab.below hb⟩
theorem KV.cells {w0 w : World} {n0 : Nat} {vs vo vl vf v1 v : Value} {N : NetM} {T : List (List Stp)} (h : KV w0 n0 vs vo vl vf v1 N v T w) : w.cell? ⟨n0, 0, none⟩ = some vs ∧ w.cell? ⟨n0, 1, none⟩ = some vo ∧ w.cell? ⟨n0, 2, none⟩ = some vl ∧ w.cell? ⟨n0, 3, none⟩ = some vf ∧ w.cell? ⟨n0, 4, none⟩ = some v1 :=
  ⟨cell_of_row _ _ 0 _ _ _ h.n, cell_of_row _ _ 1 _ _ _ h.n, cell_of_row _ _ 2 _ _ _ h.n, cell_of_row _ _ 3 _ _ _ h.n, cell_of_row _ _ 4 _ _ _ h.n⟩
def Rn (N : NetM) (v : Value) (w : World) : Prop := ∃ us uo ul uf u1, v = .agg #[us, uo, ul, uf, u1] ∧ RdNet w.heap.size w us uo ul uf u1 N
theorem rn_mono (N : NetM) : ∀ v w w', Rn N v w → Below w.heap.size w w' → Rn N v w' := fun _ _ _ ⟨a, b, c, d, e, h1, h2⟩ hb => ⟨a, b, c, d, e, h1, h2.later hb⟩
theorem fuseM_len {T : List (List Stp)} (h : FewT T) : (fuseM T).sets.length ≤ 100000 ∧ (fuseM T).last.length ≤ 100000 ∧ (fuseM T).fol.length ≤ 100000 := by
  rw [← fuseK_all]
  have h1 := fuseK_len h T.length h.len
  have h2 := h.len
  omega
theorem offT_tot {T : List (List Stp)} (h : ∀ i, (T.getD i []).length ≤ 1000) : ∀ k, k ≤ T.length → offT T k ≤ totT (T.take k)
  | 0, _ => by simp [offT, fuseK]
  | k + 1, hk => by
    have ih := offT_tot h k (by omega)
    have h1 := setsL_len (T.getD k [])
    have h2 := h k
    rw [offT_more, totT_more T k (by omega)]
    unfold cntT
    omega
theorem few_sets {T : List (List Stp)} (h : fewB T = true) (hw : ∀ i, ∀ s ∈ T.getD i [], s.wide) : (fuseM T).sets.length ≤ 90 ∧ (fuseM T).first.length ≤ 3072 := by
  have hT := few_yes h hw
  have h1 := offT_tot (fun i => Nat.le_trans (hT.each i) (by omega)) T.length (Nat.le_refl _)
  rw [List.take_length] at h1
  simp only [fewB, Bool.and_eq_true, decide_eq_true_eq] at h
  have h2 := fuseK_len hT T.length hT.len
  rw [fuseK_all] at h2
  have h3 : (fuseM T).sets.length = offT T T.length := rfl
  have := hT.len
  omega
theorem stepM_up (N : NetM) (l : List Int) (b : Nat) : (stepM N l b).Pairwise (· < ·) := by
  unfold stepM
  split
  · exact hits_up _ _
  · exact .nil
theorem startM_up (N : NetM) (b : Nat) : (startM N b).Pairwise (· < ·) := by
  unfold startM
  split
  · exact hits_up _ _
  · exact .nil
theorem runM_up (N : NetM) : ∀ W : List Nat, (runM N W).Pairwise (· < ·)
  | [] => .nil
  | c :: r => by
    have key : ∀ (r l : List Nat), l.Pairwise (· < ·) → (r.foldl (fun l b => stepM N (spI l) b) l).Pairwise (· < ·) := by
      intro r
      induction r with
      | nil => intro l h; exact h
      | cons b r ih => intro l _; exact ih _ (stepM_up _ _ _)
    exact key r _ (startM_up _ _)
theorem byN_app (s t : ByteArray) : byN (s ++ t) = byN s ++ byN t := by
  unfold byN
  rw [ByteArray.data_append, Array.toList_append, List.map_append]
theorem byN_lt2 (s : ByteArray) : ∀ c ∈ byN s, c < 256 := by
  intro c hc
  obtain ⟨u, _, rfl⟩ := List.mem_map.1 hc
  exact u.toNat_lt
theorem byN_one (s : ByteArray) (h : 0 < s.size) : byN (s.extract 0 1) = [(byN s).getD 0 0] := by
  unfold byN
  rw [ByteArray.data_extract]
  have hl : 0 < s.data.toList.length := by simpa using h
  obtain ⟨d⟩ := s
  obtain ⟨l⟩ := d
  cases l with
  | nil => simp at hl
  | cons c r => simp
/-- a row of numbers, or what reads so -/
theorem rz_of {w : World} {B : Nat} {v : Value} {l : List Int} (h : RdZ B w v l) (hB : B ≤ w.heap.size) : Rz l.length l v w := by
  obtain ⟨a, c, rfl⟩ := h.form
  exact ⟨a, c, rfl, h.below (Below.refl _ _) hB⟩
end Go.Proofs.YtbokhofdgdcpdaaDoor

/- Contract of the reference's Fuse. -/
namespace Go.Proofs.YtbokhofdgdcpdaaDoor
open Go.RowKit Go.Lib Go.Joins
theorem bumpS (w : World) (o : Obj) : Below w.heap.size w (w.alloc o) := (Below.refl w.heap.size w).alloc (Nat.le_refl _) o
set_option maxHeartbeats 8000000 in
set_option maxRecDepth 100000 in
theorem rFuse_calls {C : Nat → Prop} {v : Value} {T : List (List Stp)} {w : World} (h : Toks C w v T) (hC : ∀ b, C b → b < w.heap.size) (hT : FewT T) :
    Calls Tryd.prog 32 #[v] w (RetN w (fuseM T)) := by
  have HV := hidden h
  have HC := hidden hC
  have HF := hidden hT
  obtain ⟨av, cv, rfl, _⟩ := h
  have hb0 := ((Below.refl w.heap.size w).alloc (Nat.le_refl _) (.cells #[.slice none 0 0, .slice none 0 0, .slice none 0 0, .slice none 0 0, .slice none 0 0] 48)).alloc (by simp) (.cells #[.slice none 0 0, .slice none 0 0, .slice none 0 0, .slice none 0 0, .slice none 0 0] 48)
  have hn0 := NetW.nil (w.alloc (.cells #[.slice none 0 0, .slice none 0 0, .slice none 0 0, .slice none 0 0, .slice none 0 0] 48)) (w.heap.size + 1)
  have ho0 := heap_alloc2_old w (.cells #[.slice none 0 0, .slice none 0 0, .slice none 0 0, .slice none 0 0, .slice none 0 0] 48) (.cells #[.slice none 0 0, .slice none 0 0, .slice none 0 0, .slice none 0 0, .slice none 0 0] 48)
  rw [show (w.alloc (.cells #[.slice none 0 0, .slice none 0 0, .slice none 0 0, .slice none 0 0, .slice none 0 0] 48)).heap.size = w.heap.size + 1 by simp] at hn0
  have HB0 := hidden hb0
  have HN0 := hidden hn0
  have HO0 := hidden ho0
  obtain ⟨m, hm⟩ : ∃ m, m = T.length := ⟨_, rfl⟩
  have HM := hidden hm
  have hm12 := hm ▸ hT.len
  rw [← hm]
  clear hC hT hb0 hn0 ho0 hm
  go_enter Tryd.func32, Tryd.ntmps32
  go_wp2_with fail
  generalize hW : (w.alloc (.cells #[.slice none 0 0, .slice none 0 0, .slice none 0 0, .slice none 0 0, .slice none 0 0] 48)).alloc (.cells #[.slice none 0 0, .slice none 0 0, .slice none 0 0, .slice none 0 0, .slice none 0 0] 48) = W at *
  have HWs := hidden (show W.heap.size = w.heap.size + 2 by rw [← hW]; simp)
  clear hW
  go_loopw [4] (fun i wr => ∃ k vs vo vl vf v1 us, k ≤ m ∧ i = .int .i64 k ∧ NetW wr (w.heap.size + 1) (w.heap.size + 1) vs vo vl vf v1 us (fuseK T k) ∧ Below (w.heap.size + 1) W wr) (fun i _ => m - (Go.RowKit.intOf i).toNat)
  case atStart => exact ⟨0, _, _, _, _, _, _, by omega, rfl, HN0.out, Below.refl _ _⟩
  case round =>
    obtain ⟨k, vs, vo, vl, vf, v1, us, hk, rfl, hN, hB⟩ := hrel
    have HN := hidden hN
    have HB := hidden hB
    have HBw := hidden (HB0.out.trans (hB.mono (Nat.le_succ _)))
    clear hN hB HN0
    by_cases hlt : k < m
    · obtain ⟨b, off, a2, c2, rfl, hCb, hc, hx⟩ := HV.out.at (C' := C) (w' := wr) (fun b hb => ⟨hb, HBw.out.block b (HC.out b hb)⟩) k (HM.out ▸ hlt)
      have HX := hidden hx
      have HCB := hidden hCb
      have hL9 := HF.out.each k
      have hwd := HF.out.wide k
      have hln := fuseK_len HF.out k (by omega)
      have HBS := hidden (show w.heap.size + 1 ≤ wr.heap.size from by have := HB.out.size; have := HWs.out; omega)
      have HFK := hidden (show fuseK T (k + 1) = addM (fuseK T k) k (T.getD k []) from fuseK_more T k)
      obtain ⟨L, hL⟩ : ∃ L, L = T.getD k [] := ⟨_, rfl⟩
      obtain ⟨N, hNN⟩ : ∃ N, N = fuseK T k := ⟨_, rfl⟩
      rw [← hL] at HX hc hL9 hwd HFK
      rw [← hNN] at HN hln HFK
      have HWD := hidden hwd
      have HL9 := hidden hL9
      have HNL := hidden hln
      obtain ⟨as0, cs0, rfl⟩ := rowS_slice2 HN.out.rowS
      obtain ⟨k0, k1, k2, k3, k4⟩ := HN.out.cells
      clear hx hL9 hCb hwd hln hL hNN k1 k2 k3 k4
      go_wp2_with fail
      refine (rspsets_calls HX.out (fun b hb => Nat.lt_of_lt_of_le (HC.out b hb) (Nat.le_of_succ_le HBS.out)) (by have := HL9.out; omega)).mono ?_
      rintro e w1 ⟨v6, rfl, hr6, hb6⟩
      have HB6 := hidden hb6
      have HE6 := hidden (HN.out.freshS hr6 (Nat.le_refl _))
      have HN6 := hidden (HN.out.kept hb6)
      have HX6 := hidden (HX.out.below (C' := C) (w' := w1) fun b hb => ⟨hb, hb6.block b (Nat.lt_of_lt_of_le (HC.out b hb) (Nat.le_of_succ_le HBS.out))⟩)
      have hc6 := (hb6.cell (p := ⟨b, off + k * 3 + 1, none⟩) (Nat.lt_of_lt_of_le (HC.out b HCB.out) (Nat.le_of_succ_le HBS.out))).trans hc
      have HBS6 := hidden (Nat.le_trans HBS.out hb6.size)
      obtain ⟨a6, c6, rfl⟩ := rowS_slice2 hr6
      clear hr6 hb6 hc
      go_wp2_with fail
      refine (rLast_calls HX6.out (fun b hb => Nat.lt_of_lt_of_le (HC.out b hb) (Nat.le_of_succ_le HBS6.out)) HWD.out).mono ?_
      rintro e w2 ⟨v7, rfl, hr7, hb7⟩
      have HN7 := hidden (HN6.out.kept hb7)
      have HE7 := hidden (HE6.out.mono (FarK.below (rs := rows5 (.slice as0 N.sets.length cs0) vo vl vf v1 us N) hb7))
      have HZ7 := hidden (HN6.out.fresh hr7 (Nat.le_refl _))
      have HB7 := hidden (below_after HB6.out hb7)
      obtain ⟨a7, c7, hv7⟩ := hr7.form
      subst hv7
      have HBA := hidden (HB.out.trans (HB7.out.mono HBS.out))
      have HXA := hidden (HX6.out.below (C' := C) (w' := w2) fun b hb => ⟨hb, hb7.block b (Nat.lt_of_lt_of_le (HC.out b hb) (Nat.le_of_succ_le HBS6.out))⟩)
      have HCA := hidden ((hb7.cell (p := ⟨b, off + k * 3 + 1, none⟩) (Nat.lt_of_lt_of_le (HC.out b HCB.out) (Nat.le_of_succ_le HBS6.out))).trans hc6)
      clear hr7 hb7 hc6 HX HX6 HE6 HN6 HN k0 HB6 HB7 HBS HBS6 HBw
      obtain ⟨lst, hlst⟩ : ∃ l, l = spI (elems (prtL L).last) := ⟨_, rfl⟩
      obtain ⟨n, hn⟩ : ∃ n, n = (setsL L).length := ⟨_, rfl⟩
      obtain ⟨d, hd⟩ : ∃ d, d = N.sets.length := ⟨_, rfl⟩
      have HLST := hidden hlst
      have HNS := hidden hn
      have HD := hidden hd
      have HLL := hidden (show lst.length ≤ 256 from by rw [hlst]; exact sp_le _)
      have hn90 : n ≤ 90 := by rw [hn]; have := setsL_len L; have := HL9.out; omega
      rw [← hlst] at HZ7
      rw [← hlst, ← hn, ← hd]
      rw [← hn] at HE7
      rw [← hd] at HN7 HZ7 HE7
      have hrA : ∃ rsA, rsA = rows5 (.slice as0 d cs0) vo vl vf v1 us N := ⟨_, rfl⟩
      clear hlst hn hd
      obtain ⟨rsA, hrs⟩ := hrA
      have hS0 : StF W (w.heap.size + 1) w2 rsA (w.heap.size + 1) (refK N k L 0) w2 := by
        rw [refK_zero, hrs]
        exact ⟨_, _, _, _, _, _, HN7.out, FarK.refl _ _ _, HBA.out⟩
      rw [← hrs] at HE7 HZ7
      have HS0 := hidden hS0
      have HSL := hidden (show (setsL L).length = n from HNS.out.symm)
      clear hS0 hrs
      go_wp2_with fail
      go_loopw [8] (fun i wq => ∃ j, j ≤ n ∧ i = .int .i64 j ∧ StF W (w.heap.size + 1) w2 rsA (w.heap.size + 1) (refK N k L j) wq) (fun i _ => n - (Go.RowKit.intOf i).toNat)
      case atStart => exact ⟨0, by omega, rfl, HS0.out⟩
      case round =>
        obtain ⟨j, hj, rfl, hS⟩ := hrel
        obtain ⟨qs, qo, ql, qf, q1, qus, hNq, hFq, hBq⟩ := hS
        have hszq := hBq.size
        have HBK := hidden (fun (wx : World) (hB : Below (w.heap.size + 1) W wx) x (hx : x < w.heap.size + 1) => (hB.block x hx).trans (HBA.out.block x hx).symm)
        by_cases hjt : j < n
        · have hszq' : w.heap.size + 1 ≤ wr.heap.size := by have := HWs.out; omega
          have HNd := hidden (hNq.kept (w' := wr.drew) (Below.refl _ _).drew)
          have HFd := hidden (hFq.trans (FarK.below (w' := wr.drew) (Below.refl _ _).drew))
          have HLEN := hidden (show (refK N k L j).sets.length + 1 ≤ 1000000 ∧ (refK N k L j).of.length + 1 ≤ 1000000 ∧ (refK N k L j).last.length + 1 ≤ 1000000 ∧ (refK N k L j).fol.length + 1 ≤ 1000000 from by
            have := HNL.out
            simp only [refK, List.length_append, List.length_take, List.length_replicate, List.length_map, List.length_range]
            omega)
          have HMORE := hidden (refK_more N k L j (HSL.out.symm ▸ hjt))
          rw [← HLST.out, ← HD.out] at HMORE
          obtain ⟨b6, o6, rfl, _, s0, s1, s2, s3⟩ := HE7.out.at (w' := wr.drew) HFd.out j (HSL.out.symm ▸ hjt)
          generalize (setsL L).getD j default = sj at *
          obtain ⟨sk, sa, sb, sc, sd⟩ := sj
          dsimp only at s0 s1 s2 s3
          have hal : Below wr.heap.size wr (wr.alloc (.cells #[.int .u64 sa, .int .u64 sb, .int .u64 sc, .int .u64 sd] 28)).drew := (bumpS wr _).drew
          have HNa := hidden (hNq.kept hal)
          have HFa := hidden (hFq.trans (FarK.below hal))
          have HBa := hidden ((hBq.alloc hszq' (.cells #[.int .u64 sa, .int .u64 sb, .int .u64 sc, .int .u64 sd] 28)).drew)
          have HBSa := hidden (Nat.le_trans hszq' hal.size)
          obtain ⟨m0, m1, m2, m3, m4⟩ := HNd.out.cells
          obtain ⟨n0, n1, n2, n3, n4⟩ := HNa.out.cells
          obtain ⟨a5, c5, rfl⟩ := rowS_slice2 hNq.rowS
          have HI := hidden infoS
          clear hNq hFq hBq hal m1 m2 m3 m4 n1 n2 n3 n4 HS0
          go_wp2_with fail
          go_cut [] from 31 to 73 (fun wx => StF W (w.heap.size + 1) w2 rsA (w.heap.size + 1) { refK N k L j with sets := (refK N k L j).sets ++ [(⟨sk, sa, sb, sc, sd⟩ : Stp)] } wx)
          case first =>
            go_region_law ((refine step_app rfl _ _ rfl HI.out Tryd.underlying24 rfl (by decide) (by decide) rfl HNa.out.rowS rfl (Src.four _ (.int .u64 sa) (.int .u64 sb) (.int .u64 sc) (.int .u64 sd) 28 _ rfl) (by simp) (by simp [Value.oneCell']) HLEN.out.1 HBSa.out ?_; intro v9 w9 hA9; have HA9 := hidden hA9; have hob9 := HNa.out.still hA9.grown HNa.out.apartS; have r4 := cell_of_row w9 (w.heap.size + 1) 0 _ _ _ hob9; have hf9 := frozen_row hob9 0; clear hob9; obtain ⟨a9, c9, hv9⟩ := row_slice hA9.own; subst hv9; clear hA9))
            all_goals (have hS := StF.putS (S' := [⟨sk, sa, sb, sc, sd⟩]) HNa.out HFa.out HBa.out (Nat.le_refl _) HBSa.out HA9.out)
            all_goals (try go_wp2_with fail)
            all_goals go_meet
            all_goals exact hS
          case rest =>
            obtain ⟨qs, qo, ql, qf, q1, qus, hNq, hFq, hBq⟩ := hcut
            have hszc : w.heap.size + 1 ≤ wc.heap.size := by have := HWs.out; have := hBq.size; omega
            have hal := bumpS wc (.cells #[.int .i64 k] 3)
            have HNa := hidden (hNq.kept hal)
            have HFa := hidden (hFq.trans (FarK.below hal))
            have HBa := hidden (hBq.alloc hszc (.cells #[.int .i64 k] 3))
            have HBSa := hidden (Nat.le_trans hszc hal.size)
            obtain ⟨m0, m1, m2, m3, m4⟩ := hNq.cells
            obtain ⟨n0, n1, n2, n3, n4⟩ := HNa.out.cells
            obtain ⟨a5, c5, rfl⟩ := hNq.rowO.form
            have HI5 := hidden infoInt
            clear hNq hFq hBq hal m0 m2 m3 m4 n0 n2 n3 n4
            go_wp2_with (at_builtin; refine wpList_app rfl _ _ rfl HI5.out Tryd.underlying30 rfl (by decide) (by decide) rfl HNa.out.rowO rfl (Src.one wc (.int .i64 k) 3 _ rfl) (by simp) (by simp [Value.oneCell']) HLEN.out.2.1 HBSa.out ?_; intro v3 w3 hA; have HA3 := hidden hA; obtain ⟨a3, c3, hv3⟩ := row_slice hA.own; subst hv3; have hob3 := HNa.out.still hA.grown HNa.out.apartO; have l0 := cell_of_row w3 (w.heap.size + 1) 1 _ _ _ hob3; have hfz := frozen_row hob3 1; clear hA hob3 m1 n1)
            have HS3 := hidden (StF.putO (m := [(k : Int)]) HNa.out HFa.out HBa.out (Nat.le_refl _) HBSa.out HA3.out)
            clear l0 hfz
            generalize w3.setCell ⟨w.heap.size + 1, 1, none⟩ (.slice a3 ((refK N k L j).of.length + 1) c3) = w7 at *
            go_cut [] from 31 to 73 (fun wx => StF W (w.heap.size + 1) w2 rsA (w.heap.size + 1) { { { refK N k L j with sets := (refK N k L j).sets ++ [(⟨sk, sa, sb, sc, sd⟩ : Stp)] } with of := (refK N k L j).of ++ [(k : Int)] } with last := (refK N k L j).last ++ [decide ((j : Int) ∈ lst)] } wx)
            case first =>
              obtain ⟨qs, qo, ql, qf, q1, qus, hN4, hF4, hB4⟩ := HS3.out
              have HB4 := hidden hB4.drew
              have HN4 := hidden (hN4.kept (w' := w7.drew) (Below.refl _ _).drew)
              have HF4 := hidden (hF4.trans (FarK.below (w' := w7.drew) (Below.refl _ _).drew))
              have HB4b := hidden (show w.heap.size + 1 ≤ w7.drew.heap.size from Nat.le_trans (by have := HWs.out; omega) HB4.out.size)
              obtain ⟨a5, c5, rfl⟩ := row_slice hN4.rowL
              obtain ⟨m0, m1, m2, m3, m4⟩ := HN4.out.cells
              have HI6 := hidden infoB
              have HZ4 := hidden (show RdZ w7.drew.heap.size w7.drew (.slice a7 lst.length c7) lst from HZ7.out.mono fun k hk => ⟨(HF4.out k hk).1.1, (HF4.out k hk).2⟩)
              obtain ⟨bb, hbb⟩ : ∃ b, b = decide ((j : Int) ∈ lst) := ⟨_, rfl⟩
              have HBB := hidden hbb
              clear hB4 hN4 hF4 m0 m1 m3 m4 HS3 HA3 hbb
              go_region_law (first
                | (go_simp; refine (has11_calls _ _ lst (j : Int) HZ4.out).mono ?_;
                   rintro e w5 ⟨rfl, hb5⟩; rw [← HBB.out]; have hn5 := HN4.out.kept hb5; have HF5 := hidden (HF4.out.trans (FarK.below hb5)); obtain ⟨p0, p1, p2, p3, p4⟩ := hn5.cells; have HB5x := hidden (below_then HB4.out HB4b.out hb5); have HB5b := hidden (Nat.le_trans HB4b.out hb5.size);
                   have hal := bumpS w5 (.cells #[.bool bb] 4);
                   have HN6 := hidden (hn5.kept hal); have HF6 := hidden (HF5.out.trans (FarK.below hal)); have HB6 := hidden (HB5x.out.alloc HB5b.out (.cells #[.bool bb] 4)); have HB6b := hidden (Nat.le_trans HB5b.out hal.size); obtain ⟨q0, q1, q2, q3, q4⟩ := HN6.out.cells; clear hal hb5 hn5 p0 p1 p3 p4 q0 q1 q3 q4; dsimp only)
                | (refine step_app rfl _ _ rfl HI6.out Tryd.underlying45 rfl (by decide) (by decide) rfl HN6.out.rowL rfl (Src.one _ (.bool bb) 4 _ rfl) (by simp) (by simp [Value.oneCell']) HLEN.out.2.2.1 HB6b.out ?_;
                   intro v9 w9 hA9; have HA9 := hidden hA9; have hob9 := HN6.out.still hA9.grown HN6.out.apartL; have r4 := cell_of_row w9 (w.heap.size + 1) 2 _ _ _ hob9; have hf9 := frozen_row hob9 2; clear hob9; obtain ⟨a9, c9, hv9⟩ := row_slice hA9.own; subst hv9; clear hA9))
              all_goals (have hS := StF.putL (m := [bb]) HN6.out HF6.out HB6.out (Nat.le_refl _) HB6b.out HA9.out)
              all_goals (try go_wp2_with fail)
              all_goals go_meet
              all_goals exact (by rw [← HBB.out]; exact hS)
            case rest =>
              obtain ⟨qs, qo, ql, qf, q1, qus, hN4, hF4, hB4⟩ := hcut
              have HB4 := hidden hB4.drew
              have HN4 := hidden (hN4.kept (w' := wc.drew) (Below.refl _ _).drew)
              have HF4 := hidden (hF4.trans (FarK.below (w' := wc.drew) (Below.refl _ _).drew))
              have HB4b := hidden (show w.heap.size + 1 ≤ wc.drew.heap.size from Nat.le_trans (by have := HWs.out; omega) HB4.out.size)
              obtain ⟨a5, c5, rfl⟩ := row_slice hN4.rowF
              obtain ⟨m0, m1, m2, m3, m4⟩ := HN4.out.cells
              have HI7 := hidden infoZZ
              have HV4 := hidden (HXA.out.below (C' := C) (w' := wc.drew) fun x hx => ⟨hx, HBK.out wc.drew HB4.out x (Nat.lt_succ_of_lt (HC.out x hx))⟩)
              have hc4 := (World.cell?_of_block (a := ⟨b, off + k * 3 + 1, none⟩) (HBK.out wc.drew HB4.out b (Nat.lt_succ_of_lt (HC.out b HCB.out)))).trans HCA.out
              have HL1 := hidden (sp_le (folL j L))
              have hj90 : j ≤ 90 := by omega
              clear hB4 hN4 hF4 m0 m1 m2 m4 HS3 HA3
              go_wp2_with fail
              go_region_law (first
                | (go_simp; refine (rFollow_calls (j : Int) HV4.out (fun x hx => Nat.lt_of_lt_of_le (HC.out x hx) (Nat.le_of_succ_le HB4b.out)) HWD.out).mono ?_;
                   rintro e w5 ⟨v5, rfl, hr5, hb5⟩; have HR5 := hidden hr5; have HB5 := hidden (below_then HB4.out HB4b.out hb5); have HB5b := hidden (Nat.le_trans HB4b.out hb5.size); have hn5 := HN4.out.kept hb5; have HN5 := hidden hn5; have HF5 := hidden (HF4.out.trans (FarK.below hb5)); obtain ⟨p0, p1, p2, p3, p4⟩ := hn5.cells; obtain ⟨a6, c6, hv6⟩ := hr5.form; subst hv6; clear hr5 hb5 hn5 p0 p1 p2 p4; dsimp only)
                | (go_simp; refine (rmoved_calls (d : Int) HR5.out.reads (by have := HL1.out; omega)).mono ?_;
                   rintro e w6 ⟨v7, rfl, hr7, hb7⟩; have hn7 := HN5.out.kept hb7; have HX7 := hidden (HN5.out.fresh hr7 (Nat.le_refl _)); have HF7 := hidden (HF5.out.trans (FarK.below hb7)); obtain ⟨p0, p1, p2, p3, p4⟩ := hn7.cells; obtain ⟨a8, c8, hv8⟩ := hr7.form; subst hv8; have HB7 := hidden (below_then HB5.out HB5b.out hb7); have HB7b := hidden (Nat.le_trans HB5b.out hb7.size);
                   have hal := bumpS w6 (.cells #[.slice a8 (mvd (spI (elems (folL j L))) d).length c8] 30);
                   have HN8 := hidden (hn7.kept hal); have HF8 := hidden (HF7.out.trans (FarK.below hal)); have HX8 := hidden (far_kept HX7.out hal); have HB8 := hidden (HB7.out.alloc HB7b.out (.cells #[.slice a8 (mvd (spI (elems (folL j L))) d).length c8] 30)); have HB8b := hidden (Nat.le_trans HB7b.out hal.size); obtain ⟨q0, q1', q2, q3, q4⟩ := HN8.out.cells;
                   clear hal hr7 hb7 hn7 p0 p1 p2 p4 q0 q1' q2 q4; dsimp only)
                | (refine step_app rfl _ _ rfl HI7.out Tryd.underlying46 rfl (by decide) (by decide) rfl HN8.out.rowF rfl (Src.one _ (.slice a8 (mvd (spI (elems (folL j L))) d).length c8) 30 _ rfl) (by simp) (by simp [Value.oneCell']) HLEN.out.2.2.2 HB8b.out ?_;
                   intro v9 w9 hA9; have HA9 := hidden hA9; have hob9 := HN8.out.still hA9.grown HN8.out.apartF; have r4 := cell_of_row w9 (w.heap.size + 1) 3 _ _ _ hob9; have hf9 := frozen_row hob9 3; clear hob9; obtain ⟨a9, c9, hv9⟩ := row_slice hA9.own; subst hv9; clear hA9))
              all_goals (have hS := StF.putF HN8.out HF8.out HB8.out (Nat.le_refl _) HB8b.out HX8.out HA9.out)
              all_goals go_wp2_with fail
              all_goals go_roundw
              all_goals first
                | (exact ⟨j + 1, by omega, by go_num, by rw [HMORE.out]; exact hS⟩)
                | (simp [Go.RowKit.intOf]; omega)
        · have e : j = n := by omega
          subst e
          have hszc : w.heap.size + 1 ≤ wr.heap.size := by have := HWs.out; omega
          have HB4 := hidden hBq.drew
          have HN4 := hidden (hNq.kept (w' := wr.drew) (Below.refl _ _).drew)
          have HB4b := hidden (show w.heap.size + 1 ≤ wr.drew.heap.size from hszc)
          obtain ⟨a5, c5, rfl⟩ := hNq.row1.form
          obtain ⟨m0, m1, m2, m3, m4⟩ := HN4.out.cells
          have HI7 := hidden infoInt
          have HV4 := hidden (HXA.out.below (C' := C) (w' := wr.drew) fun x hx => ⟨hx, HBK.out wr.drew HB4.out x (Nat.lt_succ_of_lt (HC.out x hx))⟩)
          have hc4 := (World.cell?_of_block (a := ⟨b, off + k * 3 + 1, none⟩) (HBK.out wr.drew HB4.out b (Nat.lt_succ_of_lt (HC.out b HCB.out)))).trans HCA.out
          have HL1 := hidden (sp_le (prtL L).first)
          have HLF := hidden (show (refK N k L j).first.length + (mvd (spI (elems (prtL L).first)) d).length ≤ 1000000 from by
            have := HNL.out.2.2.2.2
            have := HL1.out
            rw [mvd_len]
            simp only [refK]
            omega)
          have HALL := hidden (refK_all N k L)
          rw [HSL.out, ← HD.out] at HALL
          clear hNq hFq hBq m0 m1 m2 m3 HS0
          go_wp2_with fail
          go_region_law (first
            | (go_simp; refine (rFirst_calls HV4.out (fun x hx => Nat.lt_of_lt_of_le (HC.out x hx) (Nat.le_of_succ_le HB4b.out)) HWD.out).mono ?_;
               rintro e w5 ⟨v5, rfl, hr5, hb5⟩; have HR5 := hidden hr5; have HB5 := hidden (below_then HB4.out HB4b.out hb5); have HB5b := hidden (Nat.le_trans HB4b.out hb5.size); have hn5 := HN4.out.kept hb5; have HN5 := hidden hn5; obtain ⟨p0, p1, p2, p3, p4⟩ := hn5.cells; obtain ⟨a6, c6, hv6⟩ := hr5.form; subst hv6; clear hr5 hb5 hn5 p0 p1 p2 p3; dsimp only)
            | (go_simp; refine (rmoved_calls (d : Int) HR5.out.reads (by have := HL1.out; omega)).mono ?_;
               rintro e w6 ⟨v7, rfl, hr7, hb7⟩; have HR7 := hidden hr7; have hn7 := HN5.out.kept hb7; have HN7 := hidden hn7; obtain ⟨p0, p1, p2, p3, q4⟩ := hn7.cells; obtain ⟨a8, c8, hv8⟩ := hr7.form; subst hv8; have HB7 := hidden (below_then HB5.out HB5b.out hb7); have HB7b := hidden (Nat.le_trans HB5b.out hb7.size); clear hr7 hb7 hn7 p0 p1 p2 p3; dsimp only)
            | (refine step_app rfl _ _ rfl HI7.out Tryd.underlying30 rfl (by decide) (by decide) rfl HN7.out.row1 rfl (Src.row HR7.out) (by simp) (fun _ hz => ints_one hz) HLF.out HB7b.out ?_;
               intro v9 w9 hA9; have HA9 := hidden hA9; have hob9 := HN7.out.still hA9.grown HN7.out.apart1; have r4 := cell_of_row w9 (w.heap.size + 1) 4 _ _ _ hob9; have hf9 := frozen_row hob9 4; clear hob9; obtain ⟨a9, c9, hv9⟩ := row_slice hA9.own; subst hv9; clear hA9))
          all_goals (have hS := StF.put1 HN7.out (FarK.refl _ _ _) HB7.out (Nat.le_refl _) HB7b.out HA9.out)
          all_goals rw [HALL.out] at hS
          all_goals obtain ⟨zs, zo, zl, zf, z1, zus, hNz, _, hBz⟩ := hS
          all_goals go_wp2_with fail
          all_goals go_roundw
          all_goals first
            | (exact ⟨k + 1, zs, zo, zl, zf, z1, zus, by omega, by go_num, by rw [HFK.out]; exact hNz, hBz⟩)
            | (simp [Go.RowKit.intOf]; omega)
    · have e : k = m := by omega
      subst e
      have HE := hidden (HM.out ▸ fuseK_all T : fuseK T k = fuseM T)
      rw [HE.out] at HN
      have HO1 := hidden ((HB.out.block w.heap.size (by omega)).trans HO0.out)
      go_wp2_with (first
        | (refine wpList_load_row rfl 48 (.tmp 3) rfl (w.heap.size + 1) rfl 48 #[vs, vo, vl, vf, v1] (0, 0) _ HN.out.obj Tryd.underlying48 rfl (by kernel_rfl) ?_)
        | (refine store_row (B := w.heap.size) (cs := #[vs, vo, vl, vf, v1]) (old := #[.slice none 0 0, .slice none 0 0, .slice none 0 0, .slice none 0 0, .slice none 0 0]) (t := 48) rfl (ty := 48) (x := .tmp 2) (y := .tmp 86) rfl rfl rfl HO1.out 5 (by kernel_rfl) rfl rfl (five_one HN.out) ?_; intro w2 hw2 hg2; have HL2 := hidden hw2; have HG2 := hidden hg2; clear hw2 hg2))
      have HW2 := hidden (HN.out.over HG2.out (Nat.lt_succ_self _) (Nat.le_refl _) (nil_cells HO1.out))
      have HB2 := hidden (HBw.out.grown HG2.out HBw.out.size (fun j e => by simp only [Option.some.injEq] at e; omega))
      exact ret_net Tryd.results32 rfl rfl HL2.out ⟨_, _, _, _, _, rfl, HW2.out.reads, HB2.out⟩
end Go.Proofs.YtbokhofdgdcpdaaDoor

/- Which tokens a word ends in, and the first of them; without the program. -/
namespace Go.Proofs.YtbokhofdgdcpdaaDoor
open Go.RowKit Go.Lib Go.Joins
/-- those of some spots that are of a token -/
def ownM (N : NetM) (t : Nat) (R : List Nat) : List Nat := R.filter fun q => decide (N.of.getD q 0 = (t : Int))
theorem ownM_more (N : NetM) (t : Nat) (R : List Nat) (j : Nat) (hj : j < R.length) : ownM N t (R.take (j + 1)) = if N.of.getD (R.getD j 0) 0 = (t : Int) then ownM N t (R.take j) ++ [R.getD j 0] else ownM N t (R.take j) := by
  unfold ownM
  rw [List.take_succ_eq_append_getElem hj, List.filter_append, List.getD_eq_getElem?_getD (l := R), List.getElem?_eq_getElem hj, Option.getD_some]
  by_cases h : N.of.getD R[j] 0 = (t : Int)
  · rw [if_pos h]; simpa using h
  · rw [if_neg h]; simpa using h
theorem ownM_len (N : NetM) (t : Nat) (R : List Nat) : (ownM N t R).length ≤ R.length := List.length_filter_le _ _
/-- does the expression of a token say the word? -/
noncomputable def isT (T : List (List Stp)) (s : ByteArray) (t : Nat) : Bool := lastIs (endsV (T.getD t []) (byN s) 0) s.size
/-- the first of the first tokens that does -/
noncomputable def firstM (T : List (List Stp)) (s : ByteArray) : Nat → Int
  | 0 => -1
  | t + 1 => if (isT T s t && decide (firstM T s t < 0)) = true then (t : Int) else firstM T s t
theorem firstM_is (T : List (List Stp)) (s : ByteArray) : ∀ n, (firstM T s n = -1 ∧ ∀ t, t < n → isT T s t = false) ∨ ∃ t, t < n ∧ firstM T s n = (t : Int) ∧ isT T s t = true ∧ ∀ k, k < t → isT T s k = false
  | 0 => .inl ⟨rfl, fun t h => by omega⟩
  | n + 1 => by
    unfold firstM
    rcases firstM_is T s n with ⟨h1, h2⟩ | ⟨t, h1, h2, h3, h4⟩
    · by_cases h : isT T s n = true
      · rw [h, h1, if_pos (by decide)]
        exact .inr ⟨n, by omega, rfl, h, h2⟩
      · have h' : isT T s n = false := by simpa using h
        rw [h', if_neg (by simp)]
        refine .inl ⟨h1, fun t ht => ?_⟩
        by_cases e : t = n
        · rw [e]; exact h'
        · exact h2 t (by omega)
    · rw [h2, decide_eq_false (by omega), Bool.and_false, if_neg (by decide)]
      exact .inr ⟨t, by omega, rfl, h3, h4⟩
theorem firstM_lo (T : List (List Stp)) (s : ByteArray) (n : Nat) : -1 ≤ firstM T s n ∧ firstM T s n ≤ n := by
  rcases firstM_is T s n with ⟨h1, _⟩ | ⟨t, h1, h2, _⟩ <;> omega
section
variable {T : List (List Stp)} (hT : FewT T) (s : ByteArray) (hs : 0 < s.size)
include hT hs
theorem isT_iff {t : Nat} (ht : t < T.length) : isT T s t = true ↔ ∃ q, q ∈ runM (fuseM T) (byN s) ∧ (fuseM T).of.getD q 0 = (t : Int) ∧ lasB (fuseM T) (q : Int) = true := by
  have hl := byN_len s
  have hW : ∀ c ∈ byN s, c < 256 := fun c hc => by
    obtain ⟨u, _, rfl⟩ := List.mem_map.1 hc
    exact u.toNat_lt
  have hrun := fun q => run_come hT hT.len (byN s) hW (s.size - 1) (by omega) q
  rw [show s.size - 1 + 1 = s.size by omega, List.take_of_length_le (by omega), fuseK_all] at hrun
  have hat := fun k p hk hp => fuse_at T T.length k p hk hp
  rw [fuseK_all] at hat
  have hlen : (fuseM T).sets.length = offT T T.length := rfl
  have hlas : ∀ k p, k < T.length → p < cntT T k → (lasB (fuseM T) ((offT T k + p : Nat) : Int) = true ↔ p ∈ elems (prtL (T.getD k [])).last) := fun k p hk hp => by
    unfold lasB
    have hlt := offT_lt T hk hp
    rw [decide_eq_true (by omega), Bool.true_and, decide_eq_true (by omega), Bool.true_and, Int.toNat_natCast, (hat k p hk hp).last, decide_eq_true_eq, mem_spI]
  by_cases hz : (measV (T.getD t [])).2 = 0
  · obtain ⟨h512, hE⟩ := meas_expr hz
    obtain ⟨_, hok, hops⟩ := tree_of hE (hT.wide t)
    have hsay : isT T s t = true ↔ Lang (treeE (T.getD t [])) (byN s) := by
      unfold isT
      rw [show (0 : Int) = ((0 : Nat) : Int) from rfl, endsV_yes hz (Nat.zero_le _), ← byN_len, lastIs_iff, says_iff]
    rw [hsay, ← come_said hok (byN s)]
    constructor
    · rintro (⟨h0, _⟩ | ⟨p, h1, h2⟩)
      · omega
      · rw [hl] at h1
        have hp := come_cnt hT hz h1
        refine ⟨offT T t + p, (hrun _).2 ⟨t, p, ht, hz, rfl, h1⟩, (hat t p ht hp).of, (hlas t p ht hp).2 ?_⟩
        unfold prtL
        rw [if_pos hz, elems_mem]
        have := cntT_bound hT t
        exact ⟨by omega, h2⟩
    · rintro ⟨q, hq, ho, hla⟩
      obtain ⟨k, p, hk, hz', rfl, h1⟩ := (hrun q).1 hq
      have hp := come_cnt hT hz' h1
      rw [(hat k p hk hp).of] at ho
      obtain rfl : k = t := by omega
      have h2 := (hlas k p hk hp).1 hla
      unfold prtL at h2
      rw [if_pos hz'] at h2
      rw [← hl] at h1
      exact .inr ⟨p, h1, ((elems_mem _ _).1 h2).2⟩
  · have hno : isT T s t = false := by
      unfold isT
      rw [endsV_no (.inl hz)]
      rfl
    rw [hno]
    constructor
    · intro h; cases h
    · rintro ⟨q, hq, ho, _⟩
      obtain ⟨k, p, hk, hz', rfl, h1⟩ := (hrun q).1 hq
      have hp := come_cnt hT hz' h1
      rw [(hat k p hk hp).of] at ho
      obtain rfl : k = t := by omega
      exact absurd hz' hz
theorem own_tells {t : Nat} (ht : t < T.length) : (tokenM (fuseM T) (spI (ownM (fuseM T) t (runM (fuseM T) (byN s)))) == (t : Int)) = isT T s t := by
  have hR := fuseM_right hT
  unfold tokenM
  rw [if_pos hR]
  have h := tok_is hR (spI (ownM (fuseM T) t (runM (fuseM T) (byN s))))
  have hi := isT_iff hT s hs ht
  have hown : ∀ q, q ∈ ownM (fuseM T) t (runM (fuseM T) (byN s)) ↔ q ∈ runM (fuseM T) (byN s) ∧ (fuseM T).of.getD q 0 = (t : Int) := fun q => by
    unfold ownM
    rw [List.mem_filter, decide_eq_true_eq]
  rw [Bool.eq_iff_iff, beq_iff_eq, hi]
  rcases h with ⟨e, h⟩ | ⟨h0, ⟨x, hx, hl, ho⟩, _⟩
  · rw [e]
    constructor
    · intro h2; omega
    · rintro ⟨q, h1, h2, h3⟩
      rw [h q ((mem_spIZ _ _).2 ⟨q, rfl, (hown q).2 ⟨h1, h2⟩⟩)] at h3
      cases h3
  · obtain ⟨q, rfl, hq⟩ := (mem_spIZ _ _).1 hx
    obtain ⟨h1, h2⟩ := (hown q).1 hq
    rw [Int.toNat_natCast, h2] at ho
    exact ⟨fun _ => ⟨q, h1, h2, hl⟩, fun _ => ho.symm⟩
theorem first_tells : tokenM (fuseM T) (spI (runM (fuseM T) (byN s))) = firstM T s T.length := by
  have hR := fuseM_right hT
  unfold tokenM
  rw [if_pos hR]
  have h := tok_is hR (spI (runM (fuseM T) (byN s)))
  have hi := fun t ht => isT_iff hT s hs (t := t) ht
  have hof : ∀ q, q ∈ runM (fuseM T) (byN s) → ∃ k, k < T.length ∧ (fuseM T).of.getD q 0 = (k : Int) := fun q hq => by
    have hW : ∀ c ∈ byN s, c < 256 := fun c hc => by
      obtain ⟨u, _, rfl⟩ := List.mem_map.1 hc
      exact u.toNat_lt
    have hrun := run_come hT hT.len (byN s) hW (s.size - 1) (by rw [byN_len]; omega) q
    rw [show s.size - 1 + 1 = s.size by omega, List.take_of_length_le (by rw [byN_len]; exact Nat.le_refl _), fuseK_all] at hrun
    obtain ⟨k, p, hk, hz, rfl, h1⟩ := hrun.1 hq
    have hat := fuse_at T T.length k p hk (come_cnt hT hz h1)
    rw [fuseK_all] at hat
    exact ⟨k, hk, hat.of⟩
  rcases h with ⟨e, h⟩ | ⟨h0, ⟨x, hx, hl, ho⟩, hm⟩
  · rcases firstM_is T s T.length with ⟨e2, _⟩ | ⟨t, h1, h2, h3, _⟩
    · rw [e, e2]
    · obtain ⟨q, h4, h5, h6⟩ := (hi t h1).1 h3
      rw [h q ((mem_spIZ _ _).2 ⟨q, rfl, h4⟩)] at h6
      cases h6
  · obtain ⟨q, rfl, hq⟩ := (mem_spIZ _ _).1 hx
    rw [Int.toNat_natCast] at ho
    obtain ⟨k, hk, hok⟩ := hof q hq
    have hk1 := (hi k hk).2 ⟨q, hq, hok, hl⟩
    rcases firstM_is T s T.length with ⟨_, h2⟩ | ⟨t, h1, h2, h3, h4⟩
    · rw [h2 k hk] at hk1; cases hk1
    · rw [h2, ← ho, hok]
      obtain ⟨q', h5, h6, h7⟩ := (hi t h1).1 h3
      have h8 := hm q' ((mem_spIZ _ _).2 ⟨q', rfl, h5⟩) h7
      rw [Int.toNat_natCast, h6, ← ho, hok] at h8
      have h9 : ¬ k < t := fun h => by rw [h4 k h] at hk1; cases hk1
      omega
end
end Go.Proofs.YtbokhofdgdcpdaaDoor
