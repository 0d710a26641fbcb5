/- SpRdE, SpRdN, SpAsk, put together. -/
import Derived.Test.YtbokhofdgdcpdaaDoorFu20
import Derived.Test.YtbokhofdgdcpdaaDoorFu16
import Derived.Test.YtbokhofdgdcpdaaDoorFu08
import Derived.Test.YtbokhofdgdcpdaaDoorFu14
/- Contract of read at an expression. -/
namespace Go.Proofs.YtbokhofdgdcpdaaDoor
open Go.RowKit Go.Lib Go.Joins
attribute [local go_sem] Rl.evalR_tmp Rl.evalR_const Rl.evalR_global Rl.evalR_func
section
variable {base : Nat} {row : Option Nat} {w w1 w2 : World}
theorem Mb.refl (w : World) : Mb base row w w := ⟨rfl, rfl, rfl, Nat.le_refl _, fun _ _ _ => rfl⟩
theorem Mb.trans (h : Mb base row w w1) (k : Mb base row w1 w2) : Mb base row w w2 := ⟨k.1.trans h.1, k.2.1.trans h.2.1, k.2.2.1.trans h.2.2.1, Nat.le_trans h.2.2.2.1 k.2.2.2.1, fun i hi hr => (k.2.2.2.2 i hi hr).trans (h.2.2.2.2 i hi hr)⟩
theorem Mb.below (h : Mb base row w w1) (hb : base ≤ w1.heap.size) (k : Below w1.heap.size w1 w2) : Mb base row w w2 := h.trans ⟨k.os, k.tape, k.output, k.size, fun i hi _ => k.block i (by omega)⟩
theorem Mb.own {B : Nat} (h : Mb base row w w1) (hB : base ≤ B) (k : w1.grownBy w2 (some B)) (hs : base ≤ w1.heap.size) : Mb base row w w2 := h.trans ⟨k.os, k.tape, k.output, k.size, fun i hi _ => k.block i (by omega) (fun e => by simp only [Option.some.injEq] at e; omega)⟩
theorem Mb.size (h : Mb base row w w1) : w.heap.size ≤ w1.heap.size := h.2.2.2.1
theorem Mb.block (h : Mb base row w w1) (k : Nat) (hk : k < base) (hr : row ≠ some k) : w1.heap[k]? = w.heap[k]? := h.2.2.2.2 k hk (fun e => hr e.symm)
theorem Mb.drew (h : Mb base row w w1) : Mb base row w w1.drew := h
end

def Lone (B0 g n cap c : Nat) : List (Value → World → Prop) := [Rl.Is (.slice (some ⟨g, 0, none⟩) n cap), Rl.Is (.int .i64 (c : Int)), Rl.Is (.agg #[.int .u64 (word (fOne c) 0), .int .u64 (word (fOne c) 1), .int .u64 (word (fOne c) 2), .int .u64 (word (fOne c) 3), .int .u64 (word (fOne c) 0), .int .u64 (word (fOne c) 1), .int .u64 (word (fOne c) 2), .int .u64 (word (fOne c) 3), .bool false]), fun v w => ∃ xb, v = .slice (some ⟨xb, 0, none⟩) 1 1 ∧ w.heap[xb]? = some (.cells #[.int .u64 (word (fOne c) 0), .int .u64 (word (fOne c) 1), .int .u64 (word (fOne c) 2), .int .u64 (word (fOne c) 3), .int .u64 (word (fOne c) 0), .int .u64 (word (fOne c) 1), .int .u64 (word (fOne c) 2), .int .u64 (word (fOne c) 3), .bool false] 72 (0, 0)) ∧ B0 ≤ xb ∧ xb < w.heap.size]
set_option maxHeartbeats 16000000 in
set_option maxRecDepth 100000 in
theorem read_calls {C : Nat → Prop} {v0 : Value} {L : List Stp} {w : World} {f : FuncId} {c : Array Value} {row : Option Nat} {J : List (Prt × Prt) → World → Prop} (h : SlX C w v0 L) (hC : ∀ b, C b → b < w.heap.size) (hrC : ∀ b, C b → row ≠ some b) (hz : (measV L).2 = 0) (hwd : ∀ s ∈ L, s.wide) (hM : Mt w.heap.size f c row J) (hJ : J [] w) :
    Calls Tryd.prog 51 #[v0, .func (.func f) #[] c] w fun e w' => e = .returned (prtV (prtE (treeE L) 0)) ∧ J (met (treeE L) 0) w' ∧ w.grownBy w' row := by
  obtain ⟨i0, hi, hz0, hz1, hz2⟩ := info_parts infoP
  obtain ⟨W, hW⟩ : ∃ W, W = (w.alloc (.cells #[.func (.func f) #[] c] 79)).alloc (.cells #[.int .u64 0, .int .u64 0, .int .u64 0, .int .u64 0, .int .u64 0, .int .u64 0, .int .u64 0, .int .u64 0, .bool false] 72) := ⟨_, rfl⟩
  have hba : Below w.heap.size w W := by rw [hW]; exact ((Below.refl w.heap.size w).alloc (Nat.le_refl _) _).alloc (by simp) _
  have hWs : W.heap.size = w.heap.size + 2 := by rw [hW]; simp
  have hbx : Boxed W w.heap.size 79 (.func (.func f) #[] c) := by rw [hW]; exact heap_alloc2_old w _ _
  have ht4 : PrtAt W (w.heap.size + 1) ⟨fNone, fNone, false⟩ := by
    unfold PrtAt
    simp only [word_zero]
    rw [hW]
    exact heap_alloc2_new w _ _
  have hsl := h.below (C' := fun b => b < w.heap.size) (w' := W) fun b hb => ⟨hC b hb, hba.block b (hC b hb)⟩
  have hCK := check_slX hsl fun b hb => by omega
  rw [hz, hW] at hCK
  have HCK := hidden hCK
  obtain ⟨m, hm, hm512⟩ := high_range hz
  have HHI := hidden (fun W2 (hb : Below W.heap.size W W2) => (show Calls Tryd.prog 78 #[v0] W2 fun e w' => e = .returned (.int .i64 (m : Int)) ∧ Below W2.heap.size W2 w' by
    have := high_slX (hsl.below (C' := fun b => b < W2.heap.size) (w' := W2) fun b hb' => ⟨by have := hb.size; omega, hb.block b (by omega)⟩) (fun b hb => hb)
    rw [hm] at this
    exact this))
  obtain ⟨h512, hE⟩ := meas_expr hz
  have hpos := expr_ne hE
  obtain ⟨hone, hok, hops⟩ := tree_of hE hwd
  obtain ⟨a, cap, rfl, hl, hcap, _, hS⟩ := h
  obtain ⟨b, off, rfl, hCb, hc⟩ := hS.2 hpos
  have hbl := hC b hCb
  have hbr := hrC b hCb
  have HNX := hidden (fun k (hk : k < L.length) => next_of hk hE.1 hwd (forms_at hE.1 hwd k (by omega)))
  have HFO := hidden (fun k (hk : k ≤ L.length) => forms_at hE.1 hwd k hk)
  have hrow : ∀ j, row = some j → j < w.heap.size := hM.low
  have HCE := hidden (fun W2 (hW2 : Mb (w.heap.size + 2) row W W2) k (hk : k < L.length) => (hc k hk).kept (w' := W2) ((hW2.block b (by omega) hbr).trans (hba.block b hbl)))
  have HT4 := hidden (fun W2 (hW2 : Mb (w.heap.size + 2) row W W2) => (show PrtAt W2 (w.heap.size + 1) ⟨fNone, fNone, false⟩ from (hW2.block _ (by omega) (fun e => by have := hrow _ e; omega)).trans ht4))
  have HONE := hidden hone
  have HBA := hidden hba
  have HTL := hidden (fun k (hk : k ≤ L.length) => (show (trees L k).length ≤ 512 from by
    obtain ⟨g1, g2⟩ := HFO.out k hk
    have h3 : ∀ es : List Ex, es.length ≤ (es.flatMap ops).length := fun es => by
      induction es with
      | nil => simp
      | cons e r ih =>
        have := ops_pos e
        simp only [List.flatMap_cons, List.length_append, List.length_cons]
        omega
    have h2 := h3 (trees L k)
    rw [g1, List.length_take] at h2
    omega))
  have HPL := hidden (fun k (hk : k ≤ L.length) => (show plcs (trees L k) ≤ 256 from by
    have hmono : ∀ d k, k + d = L.length → plcs (trees L k) ≤ plcs (trees L L.length) := fun d => by
      induction d with
      | zero => intro k e; rw [Nat.add_zero] at e; rw [e]; exact Nat.le_refl _
      | succ d ih => intro k e; exact Nat.le_trans (next_plcs (HNX.out k (by omega)).1) (ih (k + 1) (by omega))
    have h1 := hmono (L.length - k) k (by omega)
    rw [HONE.out] at h1
    simp only [plcs] at h1
    have h2 := plc_ops (treeE L)
    rw [hops] at h2
    omega))
  obtain ⟨P, hP⟩ : ∃ P : Nat → List Prt, P = fun k => fPr (trees L k) 0 := ⟨_, rfl⟩
  obtain ⟨D, hD⟩ : ∃ D : Nat → List (Prt × Prt), D = fun k => fMet (trees L k) 0 := ⟨_, rfl⟩
  obtain ⟨N, hN⟩ : ∃ N : Nat → Nat, N = fun k => plcs (trees L k) := ⟨_, rfl⟩
  have HMV := hidden (fun k (hk : k < L.length) => (show Moves (L.getD k default) (P k) (D k) (N k) (P (k + 1)) (D (k + 1)) (N (k + 1)) by rw [hP, hD, hN]; exact next_moves (HNX.out k hk).1))
  have HPN := hidden (fun k (hk : k ≤ L.length) => (show (P k).length ≤ 512 ∧ N k ≤ 256 by
    rw [hP, hN]
    exact ⟨by simp only [fPr_len]; exact HTL.out k hk, HPL.out k hk⟩))
  have HZ := hidden (show P 0 = [] ∧ D 0 = [] ∧ N 0 = 0 by rw [hP, hD, hN]; exact ⟨rfl, rfl, rfl⟩)
  have HEND := hidden (show P L.length = [prtE (treeE L) 0] ∧ D L.length = met (treeE L) 0 by
    rw [hP, hD]
    simp only [HONE.out]
    exact ⟨rfl, by simp [fMet]⟩)
  obtain ⟨n, hn⟩ : ∃ n, n = L.length := ⟨_, rfl⟩
  rw [← hn] at HCE HMV HPN HEND h512 hpos hl hCK HCK HHI ⊢
  have HWD := hidden hW
  have HM := hidden hM
  have HJ := hidden (show Jm w.heap.size f c J [] W from ⟨hM.below _ _ _ hJ hba, hbx⟩)
  have HROW := hidden hrow
  clear hE hS hc hC hCb hone hok hwd hn hcap hCK hsl hz ht4 hba hm hops hP hD hN hrC hM hJ hbx hrow hbr HNX HFO HTL HPL HONE
  generalize hpe : prtE (treeE L) 0 = pe at *
  generalize hde : met (treeE L) 0 = de at *
  clear hpe hde
  go_enter Tryd.func51, Tryd.ntmps51
  clear hW
  go_wp2_with fail
  refine HCK.out.mono ?_
  rintro e w2 ⟨rfl, hb2⟩
  rw [← HWD.out] at hb2
  have HB2 := hidden hb2
  clear hb2
  go_wp2_with fail
  refine (HHI.out w2 HB2.out).mono ?_
  rintro e w3 ⟨rfl, hb3⟩
  have HB3 := hidden (below_after HB2.out hb3)
  have HJ3 := hidden ((HJ.out.below HM.out HB2.out).below HM.out hb3)
  clear hb3
  have hs3 : w.heap.size + 2 ≤ w3.heap.size := by rw [← hWs]; exact HB3.out.size
  go_wp2_with (at_make; refine wpList_make_own _ rfl _ _ 99 rfl (w.heap.size + 2) 72 i0 (.agg #[.int .u64 0, .int .u64 0, .int .u64 0, .int .u64 0, .int .u64 0, .int .u64 0, .int .u64 0, .int .u64 0, .bool false]) 9 Tryd.underlying99 hi hz0 hz1 _ _ _ m rfl rfl rfl ?b2 ?b3 hs3 ?_)
  case b2 => rw [hz2]; omega
  case b3 => unfold maxLen; omega
  intro w4 hown4 hgrow4
  have hjw4 : Jm w.heap.size f c J [] w4 := HJ3.out.own (B := w.heap.size + 2) HM.out (by omega) ⟨hgrow4.os, hgrow4.tape, hgrow4.output, hgrow4.size, fun k hk _ => hgrow4.block k hk (fun e => by cases e)⟩
  have HSK := hidden (show StkP (w4.alloc (.cells #[.slice (some ⟨w3.heap.size, 0, none⟩) 0 m] 99)) w4.heap.size (w.heap.size + 2) w3.heap.size m (P 0) by
    rw [HZ.out.1]
    exact ⟨Boxed.new w4 _ _, World.ownsRow.alloc hown4 _⟩)
  have HJ4 := hidden (show Jm w.heap.size f c J (D 0) (w4.alloc (.cells #[.slice (some ⟨w3.heap.size, 0, none⟩) 0 m] 99)) by
    rw [HZ.out.2.1]
    exact hjw4.below HM.out ((Below.refl _ _).alloc (Nat.le_refl _) _))
  have hb4 : Below (w.heap.size + 2) W w4 := (show Below (w.heap.size + 2) W w3 by rw [← hWs]; exact HB3.out).grown hgrow4 hs3 (fun j e => by cases e)
  have hs4 : w.heap.size + 2 ≤ w4.heap.size := by have := hgrow4.size; omega
  have HB4 := hidden (show Mb (w.heap.size + 2) row W (w4.alloc (.cells #[.slice (some ⟨w3.heap.size, 0, none⟩) 0 m] 99)) from (Mb.below (w1 := w4) ⟨hb4.os, hb4.tape, hb4.output, hb4.size, fun k hk _ => hb4.block k hk⟩ hs4 ((Below.refl _ _).alloc (Nat.le_refl _) _)))
  have HN0 := hidden HZ.out.2.2
  clear hown4 hgrow4 hb4 hjw4
  go_wp2
  go_loopw [10, 26] (fun ct i wr => ∃ k : Nat, k ≤ n ∧ ct = .int .i64 (N k : Nat) ∧ i = .int .i64 k ∧ (∃ g cp, StkP wr w4.heap.size (w.heap.size + 2) g cp (P k)) ∧ Jm w.heap.size f c J (D k) wr ∧ Mb (w.heap.size + 2) row W wr) (fun _ i _ => n - (intOf i).toNat)
  case atStart => exact ⟨0, by omega, by rw [HN0.out]; rfl, rfl, ⟨_, _, HSK.out⟩, HJ4.out, HB4.out⟩
  case round =>
    obtain ⟨k, hk, rfl, rfl, ⟨gr, cr, hst⟩, hj, hb⟩ := hrel
    have HST := hidden hst
    have HJR := hidden hj
    have HB := hidden hb
    clear hst hj hb
    by_cases hlt : k < n
    · have hmv := HMV.out k hlt
      obtain ⟨hp512, hn256⟩ := HPN.out k hk
      obtain ⟨hp512', hn256'⟩ := HPN.out (k + 1) (by omega)
      obtain ⟨c0, c1, c2, c3, c4⟩ := HCE.out wr HB.out k hlt
      have hsz1 := HB.out.size
      have hsB := HST.out.lt.1
      have HLB := hidden hs4
      have hw1 : IntKind.i64.wrap ((k : Int) + 1) = (k : Int) + 1 := by rw [IntKind.wrap_i64]; omega
      generalize L.getD k default = s at *
      obtain ⟨kd, sa, sb, sc, sd⟩ := s
      have hbx := (Below.refl wr.heap.size wr).alloc (Nat.le_refl _) (.cells #[.int .i64 kd, .int .u64 sa, .int .u64 sb, .int .u64 sc, .int .u64 sd] 67)
      have HST1 := hidden (HST.out.below hbx)
      have HJR1 := hidden (HJR.out.below HM.out hbx)
      have HB1 := hidden (HB.out.below (by omega) hbx)
      obtain ⟨wa, hwa⟩ : ∃ wa, wa = wr.alloc (.cells #[.int .i64 kd, .int .u64 sa, .int .u64 sb, .int .u64 sc, .int .u64 sd] 67) := ⟨_, rfl⟩
      rw [← hwa] at HST1 HJR1 HB1
      have HWA := hidden hwa
      have HWS := hidden (show wa.heap.size = wr.heap.size + 1 by rw [hwa]; simp)
      clear hbx hwa
      obtain ⟨PK, hPK⟩ : ∃ x, x = P (k + 1) := ⟨_, rfl⟩
      obtain ⟨DK, hDK⟩ : ∃ x, x = D (k + 1) := ⟨_, rfl⟩
      obtain ⟨NK, hNK⟩ : ∃ x, x = N (k + 1) := ⟨_, rfl⟩
      rw [← hPK, ← hDK, ← hNK] at hmv
      rw [← hPK] at hp512'
      rw [← hNK] at hn256'
      generalize P k = PP at *
      generalize D k = DD at *
      generalize N k = NN at *
      have HPK := hidden hPK
      have HDK := hidden hDK
      have HNK := hidden hNK
      clear hPK hDK hNK
      rcases hmv with ⟨hkd⟩ | ⟨hkd⟩ | ⟨Y, x, z, hkd, rfl⟩ | ⟨Y, x, z, hkd, rfl⟩ | ⟨Y, x, hkd, rfl⟩ | ⟨Y, x, hkd, hpp⟩ | ⟨Y, x, hkd, rfl⟩
      case set =>
        simp only at hkd
        subst hkd
        have hnn1 : IntKind.i64.wrap ((NN : Int) + 1) = (NN : Int) + 1 := by rw [IntKind.wrap_i64]; omega
        have hN256 : NN < 256 := by omega
        obtain ⟨np, hnp⟩ : ∃ np, np = PP.length := ⟨_, rfl⟩
        rw [← hnp] at hp512
        have HNP := hidden hnp
        have HCL := hidden (fun w' (hb : Below wa.heap.size wa w') => show w'.cell? ⟨w4.heap.size, 0, none⟩ = some (.slice (some ⟨gr, 0, none⟩) np cr) from by rw [hnp]; exact (HST1.out.below hb).1.cell)
        clear hnp hp512'
        go_wp2
        rw [← HWA.out]
        refine Rl.wp_region_stepsT (R := fun w1 w2 => Below w1.heap.size w1 w2) 4 (Rl.typ (Lone wa.heap.size gr np cr NN)) (fun w1 => Below wa.heap.size wa w1) (fun w => Below.refl _ _) (by kernel_rfl) (by kernel_rfl) (by kernel_rfl) (by kernel_rfl) (by kernel_rfl) (by kernel_rfl) ?mono (below_refl_drew wa) ?step ?last
        case mono =>
          refine Rl.typ_mono ?_
          simp only [Lone, List.forall_mem_cons]
          repeat' (first | exact (fun v w w' h _ => h) | (intro p hp; cases hp; done) | refine And.intro ?_ ?_)
          rintro v w w' ⟨xb, h1, h2, h3, h4⟩ hb
          exact ⟨xb, h1, (hb.block xb h4).trans h2, h3, Nat.lt_of_lt_of_le h4 hb.size⟩
        case step =>
          refine ⟨?_, ?_, ?_, ?_, trivial⟩
          · change Rl.StepOk _ _ _ _ _ _ _ _
            intro ρ w1 hF hW
            have e5 : ρ 5 = .pointer (some ⟨w4.heap.size, 0, none⟩) := hF 5 (by decide)
            clear hF
            have hcl := HCL.out w1 hW
            have HW := hidden hW
            clear hW
            unfold Rl.Does
            go_simp
            exact ⟨rfl, HW.out, Below.refl _ _⟩
          · change Rl.StepOk _ _ _ _ _ _ _ _
            intro ρ w1 hF hW
            have e10 : ρ 10 = .int .i64 (NN : Int) := hF 10 (by decide)
            clear hF
            have HW := hidden hW
            clear hW
            unfold Rl.Does
            go_simp
            exact ⟨rfl, HW.out, Below.refl _ _⟩
          · change Rl.StepOk _ _ _ _ _ _ _ _
            intro ρ w1 hF hW
            have e35 : ρ 35 = .int .i64 (NN : Int) := hF 35 (by decide)
            clear hF
            have HW := hidden hW
            clear hW
            unfold Rl.Does
            go_simp
            refine (prtOne_calls NN _ hN256).mono ?_
            rintro e w2 ⟨rfl, hb⟩
            exact ⟨_, rfl, rfl, below_after HW.out hb, hb⟩
          · change Rl.StepOk _ _ _ _ _ _ _ _
            intro ρ w1 hF hW
            have e36 : ρ 36 = .agg #[.int .u64 (word (fOne NN) 0), .int .u64 (word (fOne NN) 1), .int .u64 (word (fOne NN) 2), .int .u64 (word (fOne NN) 3), .int .u64 (word (fOne NN) 0), .int .u64 (word (fOne NN) 1), .int .u64 (word (fOne NN) 2), .int .u64 (word (fOne NN) 3), .bool false] := hF 36 (by decide)
            clear hF
            have HW := hidden hW
            clear hW
            unfold Rl.Does
            go_simp
            exact ⟨⟨_, rfl, heap_alloc_new _ _, HW.out.size, by simp⟩, HW.out.alloc HW.out.size _, (Below.refl _ _).alloc (Nat.le_refl _) _⟩
        case last =>
          intro a1 w1 hs hv hW
          have h34 : a1.tmps.getD 34 undef = .slice (some ⟨gr, 0, none⟩) np cr := hv 0 34 (by decide) (by kernel_rfl)
          obtain ⟨xb, h37, hxb, hxl, hxl2⟩ : ∃ xb, a1.tmps.getD 37 undef = .slice (some ⟨xb, 0, none⟩) 1 1 ∧ w1.heap[xb]? = some (.cells #[.int .u64 (word (fOne NN) 0), .int .u64 (word (fOne NN) 1), .int .u64 (word (fOne NN) 2), .int .u64 (word (fOne NN) 3), .int .u64 (word (fOne NN) 0), .int .u64 (word (fOne NN) 1), .int .u64 (word (fOne NN) 2), .int .u64 (word (fOne NN) 3), .bool false] 72 (0, 0)) ∧ wa.heap.size ≤ xb ∧ xb < w1.heap.size := hv 3 37 (by decide) (by kernel_rfl)
          have hd := hs.defers
          have hz := hs.lit [34, 35, 36, 37, 38] (by kernel_rfl)
          have HS1 := hidden (HST1.out.below hW)
          have HJ1 := hidden (HJR1.out.below HM.out hW)
          have HB2 := hidden (HB1.out.below (by have := HWS.out; omega) hW)
          have hsw := hW.size
          clear hs hv hW
          obtain ⟨tm, df⟩ := a1
          simp only at hz hd h34 h37
          simp only [List.foldl_cons, List.foldl_nil, List.setIfInBounds_toArray, List.set_cons_zero, List.set_cons_succ] at hz
          rw [h34, h37] at hz
          generalize tm.getD 35 undef = u35 at hz
          generalize tm.getD 36 undef = u36 at hz
          generalize tm.getD 38 undef = u38 at hz
          clear h34 h37
          subst hz hd
          obtain ⟨q1, q2⟩ := HS1.out
          rw [← HNP.out] at q1 q2
          have hfb := q1.frozen
          have hlb := q1.lt
          refine Rl.wpOp_of_list2 rfl rfl rfl rfl ?_
          refine app_elem rfl _ _ rfl Tryd.underlying99 infoP rfl (by decide) (by decide) (base := w.heap.size + 2) (n := np) (xs := PP.flatMap prtC) (ys := prtC ⟨fOne NN, fOne NN, false⟩) rfl q2 rfl hxb rfl (fun u hu => by simp [prtC] at hu; rcases hu with h | h | h | h | h | h | h | h | h <;> subst h <;> rfl) (by omega) (by have := HWS.out; omega) ?_
          intro g6 c6 w6 hown6 hgrow6
          have HP := hidden (StkA.push q1 q2 (by decide) hgrow6 hown6)
          have hne := q1.not_row (by decide) q2
          have hcb6 := (q1.kept hgrow6 hne).cell
          have hfb6 := (q1.kept hgrow6 hne).frozen
          have hgr : w.heap.size + 2 ≤ gr := (StkA.row (⟨q1, q2⟩ : StkA _ _ _ _ _ _ _ _ _ _)).1
          have HJ6 := hidden ((HJ1.out.own HM.out (by omega) hgrow6).own HM.out (B := w4.heap.size) (by omega) (gb_set w4.heap.size 0 (.slice (some ⟨g6, 0, none⟩) (np + 1) c6)))
          have HB6 := hidden ((HB2.out.own (B := gr) hgr hgrow6 (by have := HWS.out; omega)).set (B := w4.heap.size) HLB.out (.slice (some ⟨g6, 0, none⟩) (np + 1) c6))
          clear hown6 hgrow6 q1 q2 hxb hne
          go_wp2
          have hlt' := hlt
          go_roundw
          case rel =>
            refine ⟨k + 1, by omega, by rw [← HNK.out]; rfl, by go_num, ⟨g6, c6, ?_⟩, ?_, HB6.out⟩
            · rw [← HPK.out]
              unfold StkP
              rw [List.length_append, List.flatMap_append, ← HNP.out]
              have h := HP.out
              simpa using h
            · rw [← HDK.out]; exact HJ6.out
          case measure => simp [intOf]; omega
      case emp =>
        simp only at hkd
        subst hkd
        obtain ⟨np, hnp⟩ : ∃ np, np = PP.length := ⟨_, rfl⟩
        rw [← hnp] at hp512
        have HNP := hidden hnp
        obtain ⟨q1, q2⟩ := HST1.out
        rw [← HNP.out] at q1 q2
        have hcb := q1.cell
        rw [HWA.out] at hcb
        have hne := q1.not_row (by decide) q2
        have hgr : w.heap.size + 2 ≤ gr := (StkA.row (⟨q1, q2⟩ : StkA _ _ _ _ _ _ _ _ _ _)).1
        have hbz := (Below.refl wa.heap.size wa).alloc (Nat.le_refl _) (.cells #[.int .u64 0, .int .u64 0, .int .u64 0, .int .u64 0, .int .u64 0, .int .u64 0, .int .u64 0, .int .u64 0, .bool true] 72)
        have Q1 := hidden (show Boxed (wa.alloc (.cells #[.int .u64 0, .int .u64 0, .int .u64 0, .int .u64 0, .int .u64 0, .int .u64 0, .int .u64 0, .int .u64 0, .bool true] 72)) _ _ _ from (hbz.block _ q1.lt).trans q1)
        have Q2 := hidden (World.ownsRow.alloc q2 (.cells #[.int .u64 0, .int .u64 0, .int .u64 0, .int .u64 0, .int .u64 0, .int .u64 0, .int .u64 0, .int .u64 0, .bool true] 72))
        have HJ1 := hidden (HJR1.out.below HM.out hbz)
        have HB2 := hidden (HB1.out.below (by have := HWS.out; omega) hbz)
        have HXB := hidden (show (wa.alloc (.cells #[.int .u64 0, .int .u64 0, .int .u64 0, .int .u64 0, .int .u64 0, .int .u64 0, .int .u64 0, .int .u64 0, .bool true] 72)).heap[wr.heap.size + 1]? = some (.cells #[.int .u64 0, .int .u64 0, .int .u64 0, .int .u64 0, .int .u64 0, .int .u64 0, .int .u64 0, .int .u64 0, .bool true] 72 (0, 0)) from by rw [← HWS.out]; exact heap_alloc_new wa _)
        have HNE := hidden hne
        have HCS := hidden (show prtC ⟨fNone, fNone, true⟩ = [.int .u64 0, .int .u64 0, .int .u64 0, .int .u64 0, .int .u64 0, .int .u64 0, .int .u64 0, .int .u64 0, .bool true] by unfold prtC; simp only [word_zero])
        clear hnp hp512' q1 q2 hbz hne
        go_wp2_with (at_builtin; rw [← HWA.out]; refine app_elem rfl _ _ rfl Tryd.underlying99 infoP rfl (by decide) (by decide) (base := w.heap.size + 2) (n := np) (xs := PP.flatMap prtC) (ys := [.int .u64 0, .int .u64 0, .int .u64 0, .int .u64 0, .int .u64 0, .int .u64 0, .int .u64 0, .int .u64 0, .bool true]) rfl Q2.out rfl HXB.out rfl (fun u hu => by simp at hu; rcases hu with h | h <;> subst h <;> rfl) (by omega) (by have := HWS.out; simp; omega) ?_; intro g6 c6 w6 hown6 hgrow6; have HP := hidden (StkA.push Q1.out Q2.out (by decide) hgrow6 hown6); have hcb6 := (Q1.out.kept hgrow6 HNE.out).cell; have hfb6 := (Q1.out.kept hgrow6 HNE.out).frozen; have HJ6 := hidden ((HJ1.out.own HM.out (by omega) hgrow6).own HM.out (B := w4.heap.size) (by omega) (gb_set w4.heap.size 0 (.slice (some ⟨g6, 0, none⟩) (np + 1) c6))); have HB6 := hidden ((HB2.out.own (B := gr) hgr hgrow6 (by have := HWS.out; simp; omega)).set (B := w4.heap.size) HLB.out (.slice (some ⟨g6, 0, none⟩) (np + 1) c6)); clear hown6 hgrow6)
        go_wp2
        have hlt' := hlt
        go_roundw
        case rel =>
          refine ⟨k + 1, by omega, by rw [← HNK.out], by go_num, ⟨g6, c6, ?_⟩, by rw [← HDK.out]; exact HJ6.out, HB6.out⟩
          rw [← HPK.out]
          unfold StkP
          rw [List.length_append, List.flatMap_append, ← HNP.out]
          have h := HP.out
          rw [← HCS.out] at h
          simpa using h
        case measure => simp [intOf]; omega
      case cat =>
        simp only at hkd
        subst hkd
        have hY : Y.length ≤ 1000 := by simp only [List.length_append, List.length_cons, List.length_nil] at hp512; omega
        have H1 := bin_chain HM.out HST1.out hY HLB.out (by omega) HJR1.out
        rw [HWA.out] at H1
        have H1 := hidden H1
        go_wp2_with fail
        refine H1.out.mono ?_
        rintro e w5 ⟨rfl, hj5, hs5, hb5⟩
        rw [← HWA.out] at hb5
        have HJ5 := hidden hj5
        have HS5 := hidden hs5
        have HB5 := hidden (HB1.out.trans hb5)
        clear hj5 hs5 hb5
        go_wp2
        have hlt' := hlt
        go_roundw
        case rel => exact ⟨k + 1, by omega, by rw [← HNK.out], by go_num, ⟨gr, cr, by rw [← HPK.out]; exact HS5.out⟩, by rw [← HDK.out]; exact HJ5.out, HB5.out⟩
        case measure => simp [intOf]; omega
      case alt =>
        simp only at hkd
        subst hkd
        have hY : Y.length ≤ 1000 := by simp only [List.length_append, List.length_cons, List.length_nil] at hp512; omega
        have H1 := bin_or HM.out HST1.out hY HLB.out (by omega) HJR1.out
        rw [HWA.out] at H1
        have H1 := hidden H1
        go_wp2_with fail
        refine H1.out.mono ?_
        rintro e w5 ⟨rfl, hj5, hs5, hb5⟩
        rw [← HWA.out] at hb5
        have HJ5 := hidden hj5
        have HS5 := hidden hs5
        have HB5 := hidden (HB1.out.trans hb5)
        clear hj5 hs5 hb5
        go_wp2
        have hlt' := hlt
        go_roundw
        case rel => exact ⟨k + 1, by omega, by rw [← HNK.out], by go_num, ⟨gr, cr, by rw [← HPK.out]; exact HS5.out⟩, by rw [← HDK.out]; exact HJ5.out, HB5.out⟩
        case measure => simp [intOf]; omega
      case star =>
        simp only at hkd
        subst hkd
        have hY : Y.length ≤ 1000 := by simp only [List.length_append, List.length_cons, List.length_nil] at hp512; omega
        have H1 := un_repeat HM.out HST1.out hY HLB.out (by omega) HJR1.out
        rw [HWA.out] at H1
        have H1 := hidden H1
        go_wp2_with fail
        refine H1.out.mono ?_
        rintro e w5 ⟨rfl, hj5, hs5, hb5⟩
        rw [← HWA.out] at hb5
        have HJ5 := hidden hj5
        have HS5 := hidden hs5
        have HB5 := hidden (HB1.out.trans hb5)
        clear hj5 hs5 hb5
        have H2 := hidden (un_none HM.out HS5.out hY HLB.out (by omega) HJ5.out)
        go_wp2_with fail
        refine H2.out.mono ?_
        rintro e w6 ⟨rfl, hj6, hs6, hb6⟩
        have HJ6 := hidden hj6
        have HS6 := hidden hs6
        have HB6 := hidden (HB5.out.trans hb6)
        clear hj6 hs6 hb6
        go_wp2
        have hlt' := hlt
        go_roundw
        case rel => exact ⟨k + 1, by omega, by rw [← HNK.out], by go_num, ⟨gr, cr, by rw [← HPK.out]; exact HS6.out⟩, by rw [← HDK.out]; exact HJ6.out, HB6.out⟩
        case measure => simp [intOf]; omega
      case plus =>
        simp only at hkd
        subst hkd
        have HPP := hidden hpp
        have hY : Y.length ≤ 1000 := by rw [hpp] at hp512; simp only [List.length_append, List.length_cons, List.length_nil] at hp512; omega
        have H1 := un_repeat HM.out (hpp ▸ HST1.out) hY HLB.out (by omega) HJR1.out
        rw [HWA.out] at H1
        have H1 := hidden H1
        go_wp2_with fail
        refine H1.out.mono ?_
        rintro e w5 ⟨rfl, hj5, hs5, hb5⟩
        rw [← HWA.out] at hb5
        have HJ5 := hidden hj5
        have HS5 := hidden hs5
        have HB5 := hidden (HB1.out.trans hb5)
        clear hj5 hs5 hb5
        go_wp2
        have hlt' := hlt
        go_roundw
        case rel => exact ⟨k + 1, by omega, by rw [← HNK.out], by go_num, ⟨gr, cr, by rw [← HPK.out]; rw [HPP.out]; exact HS5.out⟩, by rw [← HDK.out]; exact HJ5.out, HB5.out⟩
        case measure => simp [intOf]; omega
      case opt =>
        simp only at hkd
        subst hkd
        have hY : Y.length ≤ 1000 := by simp only [List.length_append, List.length_cons, List.length_nil] at hp512; omega
        have H1 := un_none HM.out HST1.out hY HLB.out (by omega) HJR1.out
        rw [HWA.out] at H1
        have H1 := hidden H1
        go_wp2_with fail
        refine H1.out.mono ?_
        rintro e w5 ⟨rfl, hj5, hs5, hb5⟩
        rw [← HWA.out] at hb5
        have HJ5 := hidden hj5
        have HS5 := hidden hs5
        have HB5 := hidden (HB1.out.trans hb5)
        clear hj5 hs5 hb5
        go_wp2
        have hlt' := hlt
        go_roundw
        case rel => exact ⟨k + 1, by omega, by rw [← HNK.out], by go_num, ⟨gr, cr, by rw [← HPK.out]; exact HS5.out⟩, by rw [← HDK.out]; exact HJ5.out, HB5.out⟩
        case measure => simp [intOf]; omega
    · obtain rfl : k = n := by omega
      obtain ⟨hp1, hd1⟩ := HEND.out
      have hst := HST.out
      rw [hp1] at hst
      have hjr := HJR.out
      rw [hd1] at hjr
      have hcb := hst.1.cell
      simp only [List.length_cons, List.length_nil, Nat.zero_add] at hcb
      have hx := hst.cells (p := 0) (x := pe) rfl
      have k0 : wr.cell? ⟨gr, 0, none⟩ = some (.int .u64 (word pe.first 0)) := hx 0 _ rfl
      have k1 : wr.cell? ⟨gr, 1, none⟩ = some (.int .u64 (word pe.first 1)) := hx 1 _ rfl
      have k2 : wr.cell? ⟨gr, 2, none⟩ = some (.int .u64 (word pe.first 2)) := hx 2 _ rfl
      have k3 : wr.cell? ⟨gr, 3, none⟩ = some (.int .u64 (word pe.first 3)) := hx 3 _ rfl
      have k4 : wr.cell? ⟨gr, 4, none⟩ = some (.int .u64 (word pe.last 0)) := hx 4 _ rfl
      have k5 : wr.cell? ⟨gr, 5, none⟩ = some (.int .u64 (word pe.last 1)) := hx 5 _ rfl
      have k6 : wr.cell? ⟨gr, 6, none⟩ = some (.int .u64 (word pe.last 2)) := hx 6 _ rfl
      have k7 : wr.cell? ⟨gr, 7, none⟩ = some (.int .u64 (word pe.last 3)) := hx 7 _ rfl
      have k8 : wr.cell? ⟨gr, 8, none⟩ = some (.bool pe.free) := hx 8 _ rfl
      have HLA := hidden (show wr.heap[w.heap.size + 1]? = some (.cells #[.int .u64 0, .int .u64 0, .int .u64 0, .int .u64 0, .int .u64 0, .int .u64 0, .int .u64 0, .int .u64 0, .bool false] 72 (0, 0)) from by
        have h := HT4.out wr HB.out
        unfold PrtAt at h
        simp only [word_zero] at h
        exact h)
      have HJE := hidden hjr
      clear hst hjr hx hp1 hd1
      go_wp2_with (refine store_row (B := w.heap.size + 1) (cs := #[.int .u64 (word (pe.first) 0), .int .u64 (word (pe.first) 1), .int .u64 (word (pe.first) 2), .int .u64 (word (pe.first) 3), .int .u64 (word (pe.last) 0), .int .u64 (word (pe.last) 1), .int .u64 (word (pe.last) 2), .int .u64 (word (pe.last) 3), .bool pe.free]) (old := #[.int .u64 0, .int .u64 0, .int .u64 0, .int .u64 0, .int .u64 0, .int .u64 0, .int .u64 0, .int .u64 0, .bool false]) (t := 72) rfl (ty := 72) (x := .tmp 4) (y := .tmp 75) rfl rfl rfl HLA.out 9 (by kernel_rfl) rfl rfl (by kernel_rfl) ?_; intro w6 hw6 hg6; have HL6 := hidden hw6; have HJ6 := hidden (HJE.out.own HM.out (B := w.heap.size + 1) (by omega) hg6).1; have HG6 := hidden hg6; clear hw6 hg6)
      refine ret_prt (l := pe) Tryd.results51 rfl rfl HL6.out ⟨rfl, HJ6.out, ?_⟩
      have h1 := HB.out
      have h2 := HBA.out
      have h3 := HG6.out
      refine ⟨h3.os.trans (h1.1.trans h2.os), h3.tape.trans (h1.2.1.trans h2.tape), h3.output.trans (h1.2.2.1.trans h2.output), Nat.le_trans (Nat.le_trans h2.size h1.2.2.2.1) h3.size, fun i hi hr => ?_⟩
      exact (h3.block i (by have := h2.size; have := h1.size; omega) (fun e => by simp only [Option.some.injEq] at e; omega)).trans ((h1.2.2.2.2 i (by omega) hr).trans (h2.block i hi))
end Go.Proofs.YtbokhofdgdcpdaaDoor

/- read of what is no expression. -/
namespace Go.Proofs.YtbokhofdgdcpdaaDoor
open Go.RowKit Go.Lib Go.Joins
attribute [local go_sem] evalR_tmp evalR_const evalR_global evalR_func
set_option maxHeartbeats 4000000 in
set_option maxRecDepth 100000 in
theorem read_none {C : Nat → Prop} {v : Value} {L : List Stp} {w : World} {f : FuncId} {c : Array Value} (h : SlX C w v L) (hC : ∀ b, C b → b < w.heap.size) (hz : (measV L).2 ≠ 0) :
    Calls Tryd.prog 51 #[v, .func (.func f) #[] c] w fun e w' => e = .returned (prtV ⟨fNone, fNone, false⟩) ∧ Below w.heap.size w w' := by
  have hb0 := ((Below.refl w.heap.size w).alloc (Nat.le_refl _) (.cells #[.func (.func f) #[] c] 79)).alloc (by simp) (.cells #[.int .u64 0, .int .u64 0, .int .u64 0, .int .u64 0, .int .u64 0, .int .u64 0, .int .u64 0, .int .u64 0, .bool false] 72)
  have HK := hidden (check_slX (h.below (C' := fun b => b < w.heap.size) fun b hb => ⟨hC b hb, hb0.block b (hC b hb)⟩) (fun b hb => Nat.lt_of_lt_of_le hb hb0.size))
  have HP := hidden (heap_alloc2_new w (.cells #[.func (.func f) #[] c] 79) (.cells #[.int .u64 0, .int .u64 0, .int .u64 0, .int .u64 0, .int .u64 0, .int .u64 0, .int .u64 0, .int .u64 0, .bool false] 72))
  have HB := hidden hb0
  obtain ⟨a, cap, rfl, _⟩ := h
  generalize (measV L).2 = r at *
  have hne : (r != 0) = true := by simpa using hz
  generalize hv : prtV ⟨fNone, fNone, false⟩ = vv
  have HV := hidden hv
  have HZ := hidden word_zero
  clear hC hb0 hv
  go_enter Tryd.func51, Tryd.ntmps51
  go_wp2_with fail
  refine HK.out.mono ?_
  rintro e w1 ⟨rfl, hb1⟩
  have HP1 := hidden ((hb1.block _ (Array.getElem?_eq_some_iff.1 HP.out).1).trans HP.out)
  have HB1 := hidden (below_then HB.out HB.out.size hb1)
  clear hb1
  go_wp2_with (refine store_row (B := w.heap.size + 1) (cs := #[.int .u64 0, .int .u64 0, .int .u64 0, .int .u64 0, .int .u64 0, .int .u64 0, .int .u64 0, .int .u64 0, .bool false]) (old := #[.int .u64 0, .int .u64 0, .int .u64 0, .int .u64 0, .int .u64 0, .int .u64 0, .int .u64 0, .int .u64 0, .bool false]) (t := 72) rfl (ty := 72) (x := .tmp 4) (y := .tmp 16) rfl rfl rfl HP1.out 9 (by kernel_rfl) rfl rfl (by kernel_rfl) ?_; intro w6 hw6 hg6; have HL6 := hidden (show PrtAt w6 (w.heap.size + 1) ⟨fNone, fNone, false⟩ from by unfold PrtAt; simp only [word_zero]; exact hw6); have HF := hidden (HB1.out.grown hg6 HB1.out.size (fun j e => by simp only [Option.some.injEq] at e; omega)); clear hw6 hg6)
  exact ret_prt (l := ⟨fNone, fNone, false⟩) Tryd.results51 rfl rfl HL6.out ⟨by rw [HV.out], HF.out⟩
end Go.Proofs.YtbokhofdgdcpdaaDoor

/- Contracts of whole, First, Last, Free and Follow. -/
namespace Go.Proofs.YtbokhofdgdcpdaaDoor
open Go.RowKit Go.Lib Go.Joins
def aggP : TypeDesc → Bool
  | .struct _ => true
  | .array _ _ => true
  | _ => false
theorem field_agg {ops : Array Oper} {rest : List Oper} {o : Oper} {a : Act} {w : World} {Q : Exit → Act → World → Prop} (hgd : o.guard = none) {ty : TypeId} {x : Operand} {fi : Nat} (ho : o.op = .field ty x fi)
    {cs cs' : Array Value} {fs : Array Field} {f : Field} {d : TypeDesc} (n : Nat) (hx : a.eval x = .agg cs) (hu : Tryd.prog.underlying ty = some (.struct fs)) (hf : fs[fi]? = some f)
    (hdd : aggP d = true) (hu2 : Tryd.prog.underlying f.type = some d) (hi : (Tryd.prog.info? f.type).map (·.size) = some n) (hc : cs.extract f.offset (f.offset + n) = cs')
    (h : wpList Tryd.prog ops Q rest (a.put o.dst (.agg cs')) w) : wpList Tryd.prog ops Q (o :: rest) a w := by
  refine wpList_plain hgd fun K hK => ?_
  have hagg : (isAgg f.type).run Tryd.prog w = .ok true w := by
    unfold isAgg
    rw [Sem.run_bind, run_underlying hu2 w]
    cases d <;> simp_all [aggP]
  have hK' := hK _ _ h
  cases hq : Tryd.prog.info? f.type with
  | none => simp [hq] at hi
  | some i =>
    have hs : i.size = n := by simpa [hq] using hi
    have hr : (Instr.field ty (a.eval x) fi).run Tryd.prog w = .ok (.agg cs') w := by
      simp [Instr.field, hx, Sem.run_bind, run_underlying hu w, hf, asAgg, part, hagg, sizeOf, typeInfo, hq, hs, hc]
    unfold Oper.wp execOp
    simp only [ho, Sem.run_bind, hr, Result.andThen_ok, Sem.run_pure]
    exact hK'
/-- the letters of what a list of steps says -/
def letF (L : List Stp) : Let := if (measV L).2 = 0 then letE (treeE L) else ⟨false, false, fNone, fNone⟩

/-- what is known of a list of steps as a whole -/
def prtL (L : List Stp) : Prt := if (measV L).2 = 0 then prtE (treeE L) 0 else ⟨fNone, fNone, false⟩
/-- what follows a number, in a list of steps -/
def folL (i : Int) (L : List Stp) : Nat → Bool := if (measV L).2 = 0 then (met (treeE L) 0).foldl (fun G x => folG i G x.1 x.2) fNone else fNone
theorem mt_pass (B0 : Nat) : Mt B0 74 #[] none (fun _ _ => True) :=
  ⟨(enters_of Tryd.func74 (by kernel_rfl) rfl), (fun j e => by cases e), (fun _ _ _ _ _ => trivial), (fun _ _ _ _ _ _ _ => trivial), (fun _ _ _ _ => trivial), (fun D w1 a b _ => (pass_calls a b w1).mono fun e w2 ⟨h1, h2⟩ => ⟨h1, trivial, gb_below h2⟩)⟩
set_option maxHeartbeats 4000000 in
set_option maxRecDepth 100000 in
theorem whole_calls {C : Nat → Prop} {v0 : Value} {L : List Stp} {w : World} (h : SlX C w v0 L) (hC : ∀ b, C b → b < w.heap.size) (hwd : ∀ s ∈ L, s.wide) :
    Calls Tryd.prog 48 #[v0] w fun e w' => e = .returned (prtV (prtL L)) ∧ Below w.heap.size w w' := by
  have hba := (Below.refl w.heap.size w).alloc (Nat.le_refl _) (.cells #[.int .u64 0, .int .u64 0, .int .u64 0, .int .u64 0, .int .u64 0, .int .u64 0, .int .u64 0, .int .u64 0, .bool false] 72)
  have hsl := h.below (C' := fun b => b < (w.alloc (.cells #[.int .u64 0, .int .u64 0, .int .u64 0, .int .u64 0, .int .u64 0, .int .u64 0, .int .u64 0, .int .u64 0, .bool false] 72)).heap.size) (w' := w.alloc (.cells #[.int .u64 0, .int .u64 0, .int .u64 0, .int .u64 0, .int .u64 0, .int .u64 0, .int .u64 0, .int .u64 0, .bool false] 72)) fun b hb => ⟨Nat.lt_of_lt_of_le (hC b hb) hba.size, hba.block b (hC b hb)⟩
  have HB := hidden hba
  have HT := hidden (heap_alloc_new w (.cells #[.int .u64 0, .int .u64 0, .int .u64 0, .int .u64 0, .int .u64 0, .int .u64 0, .int .u64 0, .int .u64 0, .bool false] 72))
  have HR := hidden (show Calls Tryd.prog 51 #[v0, .func (.func 74) #[] #[]] (w.alloc (.cells #[.int .u64 0, .int .u64 0, .int .u64 0, .int .u64 0, .int .u64 0, .int .u64 0, .int .u64 0, .int .u64 0, .bool false] 72)) fun e w' => e = .returned (prtV (prtL L)) ∧ Below (w.alloc (.cells #[.int .u64 0, .int .u64 0, .int .u64 0, .int .u64 0, .int .u64 0, .int .u64 0, .int .u64 0, .int .u64 0, .bool false] 72)).heap.size (w.alloc (.cells #[.int .u64 0, .int .u64 0, .int .u64 0, .int .u64 0, .int .u64 0, .int .u64 0, .int .u64 0, .int .u64 0, .bool false] 72)) w' from by
    unfold prtL
    by_cases hz : (measV L).2 = 0
    · rw [if_pos hz]
      exact (read_calls hsl (fun b hb => hb) (fun _ _ e => by cases e) hz hwd (mt_pass _) trivial).mono fun e w' ⟨h1, _, h3⟩ => ⟨h1, h3.os, h3.tape, h3.output, h3.size, fun k hk => h3.block k hk (by simp)⟩
    · rw [if_neg hz]
      exact read_none hsl (fun b hb => hb) hz)
  obtain ⟨av, cv, rfl, _⟩ := h
  generalize prtL L = x at *
  clear hsl hba
  unfold prtV at HR
  go_enter Tryd.func48, Tryd.ntmps48
  go_wp2_with fail
  refine HR.out.mono ?_
  rintro e w1 ⟨rfl, hb⟩
  have HB1 := hidden (below_then HB.out HB.out.size hb)
  have ht1 := (hb.block w.heap.size (by simp)).trans HT.out
  have HT5 := hidden ht1
  clear hb ht1
  dsimp only
  go_wp2_with (refine store_row (B := w.heap.size) (cs := #[.int .u64 (word (x.first) 0), .int .u64 (word (x.first) 1), .int .u64 (word (x.first) 2), .int .u64 (word (x.first) 3), .int .u64 (word (x.last) 0), .int .u64 (word (x.last) 1), .int .u64 (word (x.last) 2), .int .u64 (word (x.last) 3), .bool x.free]) (old := #[.int .u64 0, .int .u64 0, .int .u64 0, .int .u64 0, .int .u64 0, .int .u64 0, .int .u64 0, .int .u64 0, .bool false]) (t := 72) rfl (ty := 72) (x := .tmp 2) (y := .tmp 4) rfl rfl rfl HT5.out 9 (by kernel_rfl) rfl rfl (by kernel_rfl) ?_; intro w2 hw2 hg2; have HL2 := hidden hw2; have HG2 := hidden hg2; clear hw2 hg2)
  exact ret_prt (l := x) Tryd.results48 rfl rfl HL2.out ⟨rfl, HB1.out.grown HG2.out HB1.out.size (fun j e => by simp only [Option.some.injEq] at e; omega)⟩
set_option maxHeartbeats 4000000 in
set_option maxRecDepth 100000 in
theorem spFirst_calls {C : Nat → Prop} {v0 : Value} {L : List Stp} {w : World} (h : SlX C w v0 L) (hC : ∀ b, C b → b < w.heap.size) (hwd : ∀ s ∈ L, s.wide) (ht : Tab w) :
    Calls Tryd.prog 14 #[v0] w (RetZ w (spI (elems (prtL L).first))) := by
  have HW := hidden (whole_calls h hC hwd)
  have HTB := hidden ht
  obtain ⟨av, cv, rfl, _⟩ := h
  generalize prtL L = x at *
  clear ht
  unfold prtV at HW
  go_enter Tryd.func14, Tryd.ntmps14
  go_wp2_with fail
  refine HW.out.mono ?_
  rintro e w1 ⟨rfl, hb⟩
  have HB1 := hidden hb
  clear hb
  have HL := hidden (spList_calls x.first w1 (HTB.out.below HB1.out))
  dsimp only
  go_wp2_with (first | (refine field_agg rfl (ty := 72) (x := .tmp 4) (fi := 0) (cs := #[.int .u64 (word (x.first) 0), .int .u64 (word (x.first) 1), .int .u64 (word (x.first) 2), .int .u64 (word (x.first) 3), .int .u64 (word (x.last) 0), .int .u64 (word (x.last) 1), .int .u64 (word (x.last) 2), .int .u64 (word (x.last) 3), .bool x.free]) (cs' := #[.int .u64 (word (x.first) 0), .int .u64 (word (x.first) 1), .int .u64 (word (x.first) 2), .int .u64 (word (x.first) 3), .int .u64 (word (x.last) 0), .int .u64 (word (x.last) 1), .int .u64 (word (x.last) 2), .int .u64 (word (x.last) 3)]) (f := { name := "spots", type := 70, offset := 0, embedded := true, tag := "", pkgPath := "facsimile/spot", byteOffset := 0 }) rfl 8 rfl Tryd.underlying72 rfl rfl Tryd.underlying70 (by kernel_rfl) rfl ?_) | (refine field_agg rfl (ty := 70) (x := .tmp 5) (fi := 0) (cs := #[.int .u64 (word (x.first) 0), .int .u64 (word (x.first) 1), .int .u64 (word (x.first) 2), .int .u64 (word (x.first) 3), .int .u64 (word (x.last) 0), .int .u64 (word (x.last) 1), .int .u64 (word (x.last) 2), .int .u64 (word (x.last) 3)]) (cs' := #[.int .u64 (word (x.first) 0), .int .u64 (word (x.first) 1), .int .u64 (word (x.first) 2), .int .u64 (word (x.first) 3)]) (f := { name := "first", type := 68, offset := 0, embedded := false, tag := "", pkgPath := "facsimile/spot", byteOffset := 0 }) rfl 4 rfl Tryd.underlying70 rfl rfl Tryd.underlying68 (by kernel_rfl) rfl ?_))
  refine HL.out.mono ?_
  rintro e w2 ⟨v, rfl, hr, hb2⟩
  have HR := hidden (hr.lower HB1.out.size)
  have HB2 := hidden (below_after HB1.out hb2)
  clear hr hb2
  go_wp2
  go_ret
  exact ⟨_, rfl, HR.out, HB2.out⟩
set_option maxHeartbeats 4000000 in
set_option maxRecDepth 100000 in
theorem spLast_calls {C : Nat → Prop} {v0 : Value} {L : List Stp} {w : World} (h : SlX C w v0 L) (hC : ∀ b, C b → b < w.heap.size) (hwd : ∀ s ∈ L, s.wide) (ht : Tab w) :
    Calls Tryd.prog 16 #[v0] w (RetZ w (spI (elems (prtL L).last))) := by
  have HW := hidden (whole_calls h hC hwd)
  have HTB := hidden ht
  obtain ⟨av, cv, rfl, _⟩ := h
  generalize prtL L = x at *
  clear ht
  unfold prtV at HW
  go_enter Tryd.func16, Tryd.ntmps16
  go_wp2_with fail
  refine HW.out.mono ?_
  rintro e w1 ⟨rfl, hb⟩
  have HB1 := hidden hb
  clear hb
  have HL := hidden (spList_calls x.last w1 (HTB.out.below HB1.out))
  dsimp only
  go_wp2_with (first | (refine field_agg rfl (ty := 72) (x := .tmp 4) (fi := 0) (cs := #[.int .u64 (word (x.first) 0), .int .u64 (word (x.first) 1), .int .u64 (word (x.first) 2), .int .u64 (word (x.first) 3), .int .u64 (word (x.last) 0), .int .u64 (word (x.last) 1), .int .u64 (word (x.last) 2), .int .u64 (word (x.last) 3), .bool x.free]) (cs' := #[.int .u64 (word (x.first) 0), .int .u64 (word (x.first) 1), .int .u64 (word (x.first) 2), .int .u64 (word (x.first) 3), .int .u64 (word (x.last) 0), .int .u64 (word (x.last) 1), .int .u64 (word (x.last) 2), .int .u64 (word (x.last) 3)]) (f := { name := "spots", type := 70, offset := 0, embedded := true, tag := "", pkgPath := "facsimile/spot", byteOffset := 0 }) rfl 8 rfl Tryd.underlying72 rfl rfl Tryd.underlying70 (by kernel_rfl) rfl ?_) | (refine field_agg rfl (ty := 70) (x := .tmp 5) (fi := 1) (cs := #[.int .u64 (word (x.first) 0), .int .u64 (word (x.first) 1), .int .u64 (word (x.first) 2), .int .u64 (word (x.first) 3), .int .u64 (word (x.last) 0), .int .u64 (word (x.last) 1), .int .u64 (word (x.last) 2), .int .u64 (word (x.last) 3)]) (cs' := #[.int .u64 (word (x.last) 0), .int .u64 (word (x.last) 1), .int .u64 (word (x.last) 2), .int .u64 (word (x.last) 3)]) (f := { name := "last", type := 68, offset := 4, embedded := false, tag := "", pkgPath := "facsimile/spot", byteOffset := 32 }) rfl 4 rfl Tryd.underlying70 rfl rfl Tryd.underlying68 (by kernel_rfl) rfl ?_))
  refine HL.out.mono ?_
  rintro e w2 ⟨v, rfl, hr, hb2⟩
  have HR := hidden (hr.lower HB1.out.size)
  have HB2 := hidden (below_after HB1.out hb2)
  clear hr hb2
  go_wp2
  go_ret
  exact ⟨_, rfl, HR.out, HB2.out⟩
theorem free_at (x : Prt) (w : World) : (Instr.field 72 (prtV x) 1).run Tryd.prog w = .ok (.bool x.free) w := by kernel_rfl
set_option maxHeartbeats 4000000 in
set_option maxRecDepth 100000 in
theorem spFree_calls {C : Nat → Prop} {v0 : Value} {L : List Stp} {w : World} (h : SlX C w v0 L) (hC : ∀ b, C b → b < w.heap.size) (hwd : ∀ s ∈ L, s.wide) :
    Calls Tryd.prog 20 #[v0] w fun e w' => e = .returned (.bool (prtL L).free) ∧ Below w.heap.size w w' := by
  have HW := hidden (whole_calls h hC hwd)
  obtain ⟨av, cv, rfl, _⟩ := h
  generalize prtL L = x at *
  unfold prtV at HW
  go_enter Tryd.func20, Tryd.ntmps20
  go_wp2_with fail
  refine HW.out.mono ?_
  rintro e w1 ⟨rfl, hb⟩
  have hfl := free_at x w1
  unfold prtV at hfl
  go_wp2
  go_ret
  exact ⟨rfl, hb⟩
/-- Follow's function: a set that grows -/
theorem mt_fol {B0 A iB : Nat} {i : Int} (hA : A < B0) (hi : iB < B0) (hne : iB ≠ A) : Mt B0 52 #[.pointer (some ⟨iB, 0, none⟩), .pointer (some ⟨A, 0, none⟩)] (some A) (fun D w => SetA w A (D.foldl (fun G x => folG i G x.1 x.2) fNone) ∧ Boxed w iB 3 (.int .i64 i)) := by
  refine ⟨(enters_of Tryd.func52 (by kernel_rfl) rfl), (fun j e => by simp only [Option.some.injEq] at e; omega), (fun _ _ _ h hb => ⟨h.1.below hb, (hb.block _ h.2.lt).trans h.2⟩), ?_, ?_, ?_⟩
  · intro D w1 w2 B h hB hg
    exact ⟨(hg.block _ h.1.lt (fun e => by simp only [Option.some.injEq] at e; omega)).trans h.1, (hg.block _ h.2.lt (fun e => by simp only [Option.some.injEq] at e; omega)).trans h.2⟩
  · intro D x w1 h
    refine ⟨?_, h.2⟩
    have h1 := h.1
    simp only [List.foldl_append, List.foldl_cons, List.foldl_nil] at h1 ⊢
    rwa [show folG i (folG i (D.foldl (fun G x => folG i G x.1 x.2) fNone) x.1 x.2) x.1 x.2 = folG i (D.foldl (fun G x => folG i G x.1 x.2) fNone) x.1 x.2 from by
      unfold folG
      cases hasS x.1.last i
      · rfl
      · simp only [cond_true]
        funext n
        simp [fOr]] at h1
  · intro D w1 a b h
    refine (fol_calls a b h.2 h.1).mono ?_
    rintro e w2 ⟨h1, h2, h3⟩
    refine ⟨h1, ⟨?_, (h3.block _ h.2.lt (fun e => hne (by simpa using e))).trans h.2⟩, h3⟩
    simp only [List.foldl_append, List.foldl_cons, List.foldl_nil]
    exact h2
set_option maxHeartbeats 4000000 in
set_option maxRecDepth 100000 in
theorem spFollow_calls {C : Nat → Prop} {v0 : Value} {L : List Stp} {w : World} (i : Int) (h : SlX C w v0 L) (hC : ∀ b, C b → b < w.heap.size) (hwd : ∀ s ∈ L, s.wide) (ht : Tab w) :
    Calls Tryd.prog 18 #[v0, .int .i64 i] w (RetZ w (spI (elems (folL i L)))) := by
  obtain ⟨W, hW⟩ : ∃ W, W = (w.alloc (.cells #[.int .i64 i] 3)).alloc (.cells #[.int .u64 0, .int .u64 0, .int .u64 0, .int .u64 0] 68) := ⟨_, rfl⟩
  have hba : Below w.heap.size w W := by rw [hW]; exact ((Below.refl w.heap.size w).alloc (Nat.le_refl _) _).alloc (by simp) _
  have hWs : W.heap.size = w.heap.size + 2 := by rw [hW]; simp
  have hbx : Boxed W w.heap.size 3 (.int .i64 i) := by rw [hW]; exact heap_alloc2_old w _ _
  have hsa : SetA W (w.heap.size + 1) fNone := by
    unfold SetA
    simp only [word_zero]
    rw [hW]
    exact heap_alloc2_new w _ _
  have hsl := h.below (C' := fun b => b < w.heap.size) (w' := W) fun b hb => ⟨hC b hb, hba.block b (hC b hb)⟩
  have HR := hidden (show Calls Tryd.prog 51 #[v0, .func (.func 52) #[] #[.pointer (some ⟨w.heap.size, 0, none⟩), .pointer (some ⟨w.heap.size + 1, 0, none⟩)]] W fun e w' => (∃ x, e = .returned (prtV x)) ∧ SetA w' (w.heap.size + 1) (folL i L) ∧ Below w.heap.size w w' from by
    unfold folL
    by_cases hz : (measV L).2 = 0
    · rw [if_pos hz]
      refine (read_calls hsl (fun b hb => by omega) (fun b hb e => by simp only [Option.some.injEq] at e; omega) hz hwd (mt_fol (i := i) (by omega) (by omega) (by omega)) ⟨hsa, hbx⟩).mono ?_
      rintro e w' ⟨h1, h2, h3⟩
      exact ⟨⟨_, h1⟩, h2.1, hba.grown h3 (by omega) (fun j e => by simp only [Option.some.injEq] at e; omega)⟩
    · rw [if_neg hz]
      refine (read_none hsl (fun b hb => by omega) hz).mono ?_
      rintro e w' ⟨h1, h2⟩
      exact ⟨⟨_, h1⟩, hsa.below h2, below_then hba hba.size h2⟩)
  obtain ⟨av, cv, rfl, _⟩ := h
  generalize folL i L = G at *
  have HTB := hidden ht
  rw [hW] at HR
  clear hsl hba hsa hbx hWs hW ht
  go_enter Tryd.func18, Tryd.ntmps18
  go_wp2_with fail
  refine HR.out.mono ?_
  rintro e w1 ⟨⟨x, rfl⟩, hs, hb⟩
  have HB1 := hidden hb
  have hl1 := hs.lt
  obtain ⟨c0, c1, c2, c3⟩ := hs.cells
  have HL := hidden (spList_calls G w1 (HTB.out.below hb))
  clear hs hb
  dsimp only
  go_wp2_with fail
  refine HL.out.mono ?_
  rintro e w2 ⟨v, rfl, hr, hb2⟩
  have HR2 := hidden (hr.lower HB1.out.size)
  have HB2 := hidden (below_after HB1.out hb2)
  clear hr hb2
  go_wp2
  go_ret
  exact ⟨_, rfl, HR2.out, HB2.out⟩
end Go.Proofs.YtbokhofdgdcpdaaDoor
