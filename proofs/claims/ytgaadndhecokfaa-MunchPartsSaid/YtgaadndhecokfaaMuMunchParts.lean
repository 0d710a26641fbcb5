/- 'MunchParts' answers true for every machine, text and number: behind each piece the rest is cut by itself, and each piece is cut into itself. -/
import Derived.Test.YtgaadndhecokfaaMu38
namespace Go.Proofs.Ytgaadndhecokfaa
open Go.RowKit Go.Lib Go.Joins
attribute [local go_sem] Rl.evalR_tmp Rl.evalR_const Rl.evalR_global Rl.evalR_func

set_option maxHeartbeats 16000000 in
set_option maxRecDepth 100000 in
theorem walkMunchParts (vn vl : Value) (D : DfaM) (s : ByteArray) (k : Int) (w : World) (h : RdDfa w.heap.size w vn vl D) (hs : s.size ≤ maxLen) (hk : 0 ≤ k ∧ k ≤ 255) :
    Calls Try.prog 6 #[dfaA D.cls D.width vn vl, .string s, .int .u8 k] w fun e w' => e = .returned (.bool true) ∧ Below w.heap.size w w' := by
  unfold maxLen at hs
  obtain ⟨kn, rfl⟩ : ∃ kn : Nat, k = kn := ⟨k.toNat, by omega⟩
  have hkn : kn ≤ 255 := by omega
  clear hk
  have hnl : D.next.length ≤ 9223372036854775807 := by
    obtain ⟨_, _, e, h1, h2, _⟩ := h.next
    unfold maxLen at h2
    omega
  obtain ⟨an, cn, rfl⟩ := h.next.form
  have HRD := hidden h
  have HX0 := hidden (DfaAt.new w D.cls D.width (.slice an D.next.length cn) vl)
  have hB0 := (Below.refl w.heap.size w).alloc (Nat.le_refl _) (.cells (dfaC D.cls D.width (.slice an D.next.length cn) vl) 26)
  have HSM := hidden (smallM_calls (h.below hB0 hB0.size))
  have HB0 := hidden hB0
  have hbx := run_box_dfa D.cls D.width (.slice an D.next.length cn) vl
  obtain ⟨nx, hnx⟩ : ∃ n, n = D.next.length := ⟨_, rfl⟩
  rw [← hnx] at HRD HX0 HB0 HSM hbx hnl ⊢
  clear h hnx hB0
  go_enter Try.func6, Try.ntmps6
  go_wp2_with (refine load_dfa rfl (x := .tmp 3) rfl rfl HX0.out ?_)
  refine HSM.out.mono ?_
  rintro e wa ⟨rfl, hb1⟩
  have HXA := hidden (HX0.out.below hb1)
  have HBA := hidden (below_then HB0.out HB0.out.size hb1)
  clear hb1 HX0 HB0 HSM hbx
  cases hsm : smallM D with
  | false =>
    clear hsm
    go_wp2_with fail
    refine (knows16_calls _).mono ?_
    rintro e w2 ⟨rfl, hb2⟩
    go_wp2
    go_ret
    exact ⟨rfl, below_then HBA.out HBA.out.size hb2⟩
  | true =>
    clear hsm
    have e0 := HXA.out.next
    by_cases p1 : 60 < nx
    · have q2 : decide ((60 : Int) < (nx : Int)) = true := decide_eq_true (by omega)
      have q3 : decide (60 < nx) = true := decide_eq_true p1
      clear p1
      go_wp2_with fail
      refine (knows16_calls _).mono ?_
      rintro e w2 ⟨rfl, hb2⟩
      go_wp2
      go_ret
      exact ⟨rfl, below_then HBA.out HBA.out.size hb2⟩
    have q2 : decide ((60 : Int) < (nx : Int)) = false := decide_eq_false (by omega)
    have q3 : decide (60 < nx) = false := decide_eq_false p1
    by_cases p2 : 60 < s.size
    · have q4 : decide ((60 : Int) < (s.size : Int)) = true := decide_eq_true (by omega)
      have q5 : decide (60 < s.size) = true := decide_eq_true p2
      clear p1 p2
      go_wp2_with fail
      refine (knows16_calls _).mono ?_
      rintro e w2 ⟨rfl, hb2⟩
      go_wp2
      go_ret
      exact ⟨rfl, below_then HBA.out HBA.out.size hb2⟩
    have q4 : decide ((60 : Int) < (s.size : Int)) = false := decide_eq_false (by omega)
    have q5 : decide (60 < s.size) = false := decide_eq_false p2
    have hs60 : s.size ≤ 60 := by omega
    have hba : Below w.heap.size w wa := HBA.out
    have hrd : ∀ W, Below wa.heap.size wa W → RdDfa W.heap.size W (.slice an nx cn) vl D := fun W hb => HRD.out.below (below_then hba hba.size hb) (Nat.le_trans hba.size hb.size)
    have HRR := hidden (rright14_calls (hrd wa (Below.refl _ _)))
    have HPC := hidden (fun W (hb : Below wa.heap.size wa W) (u : ByteArray) (hu : u.size ≤ 200) => cut16_calls u (hrd W hb) hu)
    have HPWA := hidden (fun W (hb : Below wa.heap.size wa W) (p : Pc) (hp : p.2.size ≤ 200) => whole16_calls p (hrd W hb) hp)
    clear p1 p2 hba hrd
    go_wp2_with fail
    refine wpl_any16 (x := .tmp 3) rfl rfl (run_load_dfa HXA.out) ?_
    simp only [Act.put, List.setIfInBounds_toArray, List.set_cons_zero, List.set_cons_succ]
    go_wp2_with fail
    refine HRR.out.mono ?_
    rintro e w1 ⟨rfl, hb1⟩
    have HXB := hidden (HXA.out.below hb1)
    have HB1 := hidden hb1
    clear hb1 q2 q3 q4 q5 e0
    cases hr : rightD D with
    | false =>
      clear hr
      go_wp2_with fail
      refine (knows16_calls _).mono ?_
      rintro e w2 ⟨rfl, hb2⟩
      go_wp2
      go_ret
      have hz := below_then HBA.out HBA.out.size HB1.out
      exact ⟨rfl, below_then hz hz.size hb2⟩
    | true =>
      have HJS := hidden (joinS_cut hr s)
      have HSAY := hidden (fun r hr2 => parts_says hr s r hr2)
      have HLE := hidden (show (cutS D s).length ≤ 60 by
        have h1 := cutS_len16 D s
        omega)
      have HPS := hidden (HPC.out w1 HB1.out s (by omega))
      obtain ⟨L, hL⟩ : ∃ L, L = cutS D s := ⟨_, rfl⟩
      rw [← hL] at HPS HJS HSAY HLE
      clear hr hL
      go_wp2_with (refine load_dfa rfl (x := .tmp 3) rfl rfl HXB.out ?_)
      refine HPS.out.mono ?_
      rintro e wb ⟨v7, rfl, hr7, hb7⟩
      obtain ⟨a7, c7, rfl⟩ := hr7.form
      have HL2 := hidden hr7.reads
      have HBB := hidden (below_then HB1.out HB1.out.size hb7)
      have HX := hidden (HXB.out.below hb7)
      clear hr7 hb7 HXB HPS
      have HBW := hidden (below_then HBA.out HBA.out.size HBB.out)
      rcases hLn : L with _ | ⟨q0, R0⟩
      · subst hLn
        have hse : s = ⟨#[]⟩ := HJS.out.symm
        subst hse
        go_wp2_with fail
        refine (knows16_calls _).mono ?_
        rintro e w9 ⟨rfl, hb9⟩
        go_wp2
        go_ret
        exact ⟨rfl, below_then HBW.out HBW.out.size hb9⟩
      · have hm0 : 0 < L.length := by rw [hLn]; simp
        rw [← hLn]
        clear hLn
        obtain ⟨m, hm⟩ : ∃ m, m = L.length := ⟨_, rfl⟩
        obtain ⟨r, hr⟩ : ∃ r, r = kn % m := ⟨_, rfl⟩
        rw [← hm] at hm0 HLE
        have hrm : r < m := by rw [hr]; exact Nat.mod_lt _ hm0
        obtain ⟨f1, f2, f3, f4⟩ := HSAY.out r (by rw [← hm]; exact hrm)
        obtain ⟨J, hJ⟩ : ∃ J, J = joinS (L.take r) := ⟨_, rfl⟩
        obtain ⟨⟨t, x⟩, hq⟩ : ∃ q, q = L.getD r (0, ⟨#[]⟩) := ⟨_, rfl⟩
        obtain ⟨xb, xo, ha7, hxb, x1, x2⟩ := HL2.out.at (Below.refl _ _) r (by rw [← hm]; exact hrm)
        subst ha7
        rw [← hq] at x1 x2 f4
        have hmc : m ≤ c7 := by
          obtain ⟨a', cap', e', h1', _⟩ := HL2.out
          simp only [Value.slice.injEq] at e'
          omega
        have hxs : x.size ≤ 60 := by
          have h1 := f3
          have h2 := fst_size D (s.extract (joinS (L.take r)).size s.size)
          rw [f3] at h2
          have h3 : L.drop r = (t, x) :: L.drop (r + 1) := by
            rw [List.drop_eq_getElem_cons (by omega)]
            congr 1
            rw [hq, List.getD_eq_getElem?_getD, List.getElem?_eq_getElem (by omega)]
            rfl
          rw [h3] at h2
          have h4 : x.size ≤ (s.extract (joinS (L.take r)).size s.size).size := h2
          rw [ByteArray.size_extract] at h4
          omega
        rw [← hJ] at f1 f2 f3
        have HRT := hidden (HL2.out.take (r := r) (by rw [← hm]; omega))
        have HRDR := hidden (HL2.out.drop (r := r) (by rw [← hm]; exact hrm))
        obtain ⟨L2, hL2⟩ : ∃ L2, L2 = L.drop r := ⟨_, rfl⟩
        rw [← hL2] at f3 HRDR
        rw [← hm] at HRDR ⊢
        have HJO := hidden (join16_calls HRT.out (by rw [← hJ]; omega))
        rw [← hJ] at HJO
        obtain ⟨z, hz⟩ : ∃ z, z = s.extract J.size s.size := ⟨_, rfl⟩
        have hzs : z.size ≤ 60 := by rw [hz, ByteArray.size_extract]; omega
        rw [← hz] at f3
        have HC0B := hidden (fun W (hb : Below wb.heap.size wb W) => (hb.cell (p := ⟨xb, xo + r * 2, none⟩) hxb).trans x1)
        have HC1B := hidden (fun W (hb : Below wb.heap.size wb W) => (hb.cell (p := ⟨xb, xo + r * 2 + 1, none⟩) hxb).trans x2)
        have HLDB := hidden (fun W (hb : Below wb.heap.size wb W) => (show RdPV L2 (.slice (some ⟨xb, xo + r * 2, none⟩) (m - r) (c7 - r)) W from HRDR.out.below hb hb.size))
        have HPZB := hidden (fun W (hb : Below wb.heap.size wb W) => HPC.out W (below_then HBB.out HBB.out.size hb) z (by omega))
        rw [f3] at HPZB
        have HPWB := hidden (fun W (hb : Below wb.heap.size wb W) => HPWA.out W (below_then HBB.out HBB.out.size hb) (t, x) (show x.size ≤ 200 by omega))
        rw [f4] at HPWB
        dsimp only at HPWB
        have hsf := cut_front (xb := xb) (xo := xo) (m := m) (c := c7) (r := r) (by omega) hmc
        have hsb := cut_back (xb := xb) (xo := xo) hrm hmc
        have hmod : (kn : Int).tmod (m : Int) = (r : Int) := by rw [hr, Int.tmod_eq_emod_of_nonneg (by omega)]; rfl
        have hne0 : ((m : Int) == 0) = false := by simp; omega
        have hsl : ∀ W : World, (Instr.slice 9 (.string s) (some (.int .i64 (J.size : Int))) none none).run Try.prog W = .ok (.string z) W := fun W => by
          rw [run_slice_string_l W 9 s Try.underlying9 .i64 (J.size : Int) (by omega) (by omega), Int.toNat_natCast, hz]
        have hsh : ∀ W : World, (Instr.slice 9 (.string s) none (some (.int .i64 (J.size : Int))) none).run Try.prog W = .ok (.string J) W := fun W => by
          rw [run_slice_string_h W 9 s Try.underlying9 .i64 (J.size : Int) (by omega) (by omega), Int.toNat_natCast, f2]
        have hjj : (J.toList == J.toList) = true := by simp
        have hlj : decide ((s.size : Int) < (J.size : Int)) = false := decide_eq_false (by omega)
        have hlj' : decide (s.size < J.size) = false := decide_eq_false (by omega)
        have hwk : IntKind.i64.wrap (kn : Int) = (kn : Int) := by rw [IntKind.wrap_i64]; omega
        have hri : (r : Int) < (m : Int) := by omega
        have hwm : IntKind.i64.wrap ((kn : Int).tmod (m : Int)) = (r : Int) := by rw [hmod, IntKind.wrap_i64]; have := HLE.out; omega
        obtain ⟨B, hB⟩ : ∃ B, B = w.heap.size := ⟨_, rfl⟩
        rw [← hB] at HX ⊢
        have HBE := hidden hB
        clear hr f1 f2 f3 f4 hJ hq x1 x2 hL2 hz hm hB HRT HRDR
        go_wp2_with fail
        refine HJO.out.mono ?_
        rintro e wc ⟨rfl, hbc⟩
        have HX := hidden (HX.out.below hbc)
        have HC0 := hidden (fun W (hb : Below wc.heap.size wc W) => HC0B.out W (below_then hbc hbc.size hb))
        have HC1 := hidden (fun W (hb : Below wc.heap.size wc W) => HC1B.out W (below_then hbc hbc.size hb))
        have HLD := hidden (fun W (hb : Below wc.heap.size wc W) => HLDB.out W (below_then hbc hbc.size hb))
        have HPZ := hidden (fun W (hb : Below wc.heap.size wc W) => HPZB.out W (below_then hbc hbc.size hb))
        have HPW := hidden (fun W (hb : Below wc.heap.size wc W) => HPWB.out W (below_then hbc hbc.size hb))
        have HBC := hidden (below_then HBW.out HBW.out.size hbc)
        clear hbc HC0B HC1B HLDB HPZB HPWB
        go_wp2_with fail
        refine Rl.wp_region_steps (R := fun w1 w2 => Below w1.heap.size w1 w2) (Rl.typ [Rl.Is (dfaA D.cls D.width (.slice an nx cn) vl), Rl.Is (.string s), Rl.Is (.string J), Rl.Is (.int .i64 (J.size : Int)), Rl.Is (.string z), RdPV L2, Rl.Is (.slice (some ⟨xb, xo, none⟩) m c7), Rl.Is (.int .i64 (r : Int)), RdPV L2, Rl.Is (.bool true), Rl.Is (.bool true), Rl.Is (dfaA D.cls D.width (.slice an nx cn) vl), Rl.Is (.slice (some ⟨xb, xo, none⟩) m c7), Rl.Is (.int .i64 (r : Int)), Rl.Is (.pointer (some ⟨xb, xo + r * 2, none⟩)), Rl.Is (.agg #[.int .i64 t, .string x]), Rl.Is (.bool true), Rl.Is (.bool true), Rl.Is (.bool true), Rl.Is (.bool true), Rl.Is (.bool true), Rl.Is (.bool true)]) (fun w1 => Below wc.heap.size wc w1) (by kernel_rfl) (by kernel_rfl) (by kernel_rfl) (by kernel_rfl) ?mono (Below.refl _ _).drew [10, 18] (by kernel_rfl) ?guards ?step ?fin
        case mono =>
          refine Rl.typ_mono ?_
          simp only [List.forall_mem_cons]
          repeat' (first | exact (fun v w w' h _ => h) | exact (fun v w w' h hb => RdPV.below h hb) | (intro p hp; cases hp; done) | refine And.intro ?_ ?_)
        case guards =>
          intro g hg v w h
          simp at hg
          rcases hg with rfl | rfl <;> exact h
        case step =>
          refine ⟨?_, ?_, ?_, ?_, ?_, ?_, ?_, ?_, ?_, ?_, ?_, ?_, ?_, ?_, ?_, ?_, ?_, ?_, ?_, ?_, ?_, ?_, trivial⟩
          · intro ρ w1 hF hW
            have e3 : ρ 3 = .pointer (some ⟨B, 0, none⟩) := hF 3 (by decide)
            have HW := hidden hW
            exact does_load_dfa16 rfl e3 (HX.out.below HW.out) ⟨rfl, HW.out, Below.refl _ _⟩
          · intro ρ w1 hF hW
            have e1 : ρ 1 = .string s := hF 1 (by decide)
            have HW := hidden hW
            clear hF hW
            unfold Rl.Does
            go_simp
            first
              | exact ⟨rfl, HW.out, Below.refl _ _⟩
              | (simp; exact ⟨rfl, HW.out, Below.refl _ _⟩)
          · intro ρ w1 hF hW
            have e9 : ρ 9 = .string J := hF 9 (by decide)
            have HW := hidden hW
            clear hF hW
            unfold Rl.Does
            go_simp
            first
              | exact ⟨rfl, HW.out, Below.refl _ _⟩
              | (simp; exact ⟨rfl, HW.out, Below.refl _ _⟩)
          · intro ρ w1 hF hW
            have e65 : ρ 65 = .string J := hF 65 (by decide)
            have HW := hidden hW
            clear hF hW
            unfold Rl.Does
            go_simp
            first
              | exact ⟨rfl, HW.out, Below.refl _ _⟩
              | (simp; exact ⟨rfl, HW.out, Below.refl _ _⟩)
          · intro ρ w1 hF hW
            have e64 : ρ 64 = .string s := hF 64 (by decide)
            have e66 : ρ 66 = .int .i64 (J.size : Int) := hF 66 (by decide)
            have HW := hidden hW
            clear hF hW
            unfold Rl.Does
            go_simp
            first
              | exact ⟨rfl, HW.out, Below.refl _ _⟩
              | (simp; exact ⟨rfl, HW.out, Below.refl _ _⟩)
          · intro ρ w1 hF hW
            have e63 : ρ 63 = dfaA D.cls D.width (.slice an nx cn) vl := hF 63 (by decide)
            have e67 : ρ 67 = .string z := hF 67 (by decide)
            have HW := hidden hW
            clear hF hW
            unfold Rl.Does
            go_simp
            refine (HPZ.out _ HW.out).mono ?_
            rintro e w3 ⟨v, rfl, hr, hb⟩
            exact ⟨_, rfl, hr.reads, below_then HW.out HW.out.size hb, hb⟩
          · intro ρ w1 hF hW
            have e7 : ρ 7 = .slice (some ⟨xb, xo, none⟩) m c7 := hF 7 (by decide)
            have HW := hidden hW
            clear hF hW
            unfold Rl.Does
            go_simp
            first
              | exact ⟨rfl, HW.out, Below.refl _ _⟩
              | (simp; exact ⟨rfl, HW.out, Below.refl _ _⟩)
          · intro ρ w1 hF hW
            have e8 : ρ 8 = .int .i64 (r : Int) := hF 8 (by decide)
            have HW := hidden hW
            clear hF hW
            unfold Rl.Does
            go_simp
            first
              | exact ⟨rfl, HW.out, Below.refl _ _⟩
              | (simp; exact ⟨rfl, HW.out, Below.refl _ _⟩)
          · intro ρ w1 hF hW
            have e69 : ρ 69 = .slice (some ⟨xb, xo, none⟩) m c7 := hF 69 (by decide)
            have e70 : ρ 70 = .int .i64 (r : Int) := hF 70 (by decide)
            have HW := hidden hW
            clear hF hW
            unfold Rl.Does
            go_simp
            exact ⟨HLD.out _ HW.out, HW.out, Below.refl _ _⟩
          · intro ρ w1 hF hW
            have f0 : RdPV L2 (ρ 68) w1 := hF 68 (by decide)
            have f1 : RdPV L2 (ρ 71) w1 := hF 71 (by decide)
            have HW := hidden hW
            have HS := hidden (rsame16_calls f0 f1)
            rw [show sameP L2 L2 = true from decide_eq_true rfl] at HS
            clear hF hW f0 f1
            unfold Rl.Does
            go_simp
            refine HS.out.mono ?_
            rintro e w3 ⟨rfl, hb⟩
            exact ⟨_, rfl, rfl, below_then HW.out HW.out.size hb, hb⟩
          · intro ρ w1 hF hW
            have e72 : ρ 72 = .bool true := hF 72 (by decide)
            have HW := hidden hW
            clear hF hW
            unfold Rl.Does
            go_simp
            first
              | exact ⟨rfl, HW.out, Below.refl _ _⟩
              | (simp; exact ⟨rfl, HW.out, Below.refl _ _⟩)
          · intro ρ w1 hF hW
            have e3 : ρ 3 = .pointer (some ⟨B, 0, none⟩) := hF 3 (by decide)
            have HW := hidden hW
            exact does_load_dfa16 rfl e3 (HX.out.below HW.out) ⟨rfl, HW.out, Below.refl _ _⟩
          · intro ρ w1 hF hW
            have e7 : ρ 7 = .slice (some ⟨xb, xo, none⟩) m c7 := hF 7 (by decide)
            have HW := hidden hW
            clear hF hW
            unfold Rl.Does
            go_simp
            first
              | exact ⟨rfl, HW.out, Below.refl _ _⟩
              | (simp; exact ⟨rfl, HW.out, Below.refl _ _⟩)
          · intro ρ w1 hF hW
            have e8 : ρ 8 = .int .i64 (r : Int) := hF 8 (by decide)
            have HW := hidden hW
            clear hF hW
            unfold Rl.Does
            go_simp
            first
              | exact ⟨rfl, HW.out, Below.refl _ _⟩
              | (simp; exact ⟨rfl, HW.out, Below.refl _ _⟩)
          · intro ρ w1 hF hW
            have e75 : ρ 75 = .slice (some ⟨xb, xo, none⟩) m c7 := hF 75 (by decide)
            have e76 : ρ 76 = .int .i64 (r : Int) := hF 76 (by decide)
            have HW := hidden hW
            clear hF hW
            unfold Rl.Does
            go_simp
            first
              | exact ⟨rfl, HW.out, Below.refl _ _⟩
              | (simp; exact ⟨rfl, HW.out, Below.refl _ _⟩)
          · intro ρ w1 hF hW
            have e77 : ρ 77 = .pointer (some ⟨xb, xo + r * 2, none⟩) := hF 77 (by decide)
            have HW := hidden hW
            have c0 := HC0.out _ hW
            have c1 := HC1.out _ hW
            clear hF hW
            unfold Rl.Does
            go_simp
            first
              | exact ⟨rfl, HW.out, Below.refl _ _⟩
              | (simp; exact ⟨rfl, HW.out, Below.refl _ _⟩)
          · intro ρ w1 hF hW
            have e74 : ρ 74 = dfaA D.cls D.width (.slice an nx cn) vl := hF 74 (by decide)
            have e78 : ρ 78 = .agg #[.int .i64 t, .string x] := hF 78 (by decide)
            have HW := hidden hW
            clear hF hW
            unfold Rl.Does
            go_simp
            refine (HPW.out _ HW.out).mono ?_
            rintro e w3 ⟨rfl, hb⟩
            exact ⟨_, rfl, rfl, below_then HW.out HW.out.size hb, hb⟩
          · intro ρ w1 hF hW
            have e73 : ρ 73 = .bool true := hF 73 (by decide)
            have e79 : ρ 79 = .bool true := hF 79 (by decide)
            have HW := hidden hW
            clear hF hW
            unfold Rl.Does
            go_simp
            first
              | exact ⟨rfl, HW.out, Below.refl _ _⟩
              | (simp; exact ⟨rfl, HW.out, Below.refl _ _⟩)
          · intro ρ w1 hF hW
            have e80 : ρ 80 = .bool true := hF 80 (by decide)
            have HW := hidden hW
            clear hF hW
            unfold Rl.Does
            go_simp
            first
              | exact ⟨rfl, HW.out, Below.refl _ _⟩
              | (simp; exact ⟨rfl, HW.out, Below.refl _ _⟩)
          · intro ρ w1 hF hW
            have HW := hidden hW
            clear hF hW
            unfold Rl.Does
            go_simp
            refine (knows16_calls _).mono ?_
            rintro e w3 ⟨rfl, hb⟩
            exact ⟨_, rfl, rfl, below_then HW.out HW.out.size hb, hb⟩
          · intro ρ w1 hF hW
            have e81 : ρ 81 = .bool true := hF 81 (by decide)
            have e82 : ρ 82 = .bool true := hF 82 (by decide)
            have HW := hidden hW
            clear hF hW
            unfold Rl.Does
            go_simp
            first
              | exact ⟨rfl, HW.out, Below.refl _ _⟩
              | (simp; exact ⟨rfl, HW.out, Below.refl _ _⟩)
          · intro ρ w1 hF hW
            have e83 : ρ 83 = .bool true := hF 83 (by decide)
            have HW := hidden hW
            clear hF hW
            unfold Rl.Does
            go_simp
            first
              | exact ⟨rfl, HW.out, Below.refl _ _⟩
              | (simp; exact ⟨rfl, HW.out, Below.refl _ _⟩)
        case fin =>
          intro a1 w11 hst hv hW
          have h8 : a1.tmps.getD 6 undef = .bool true := hv 21 6 (by kernel_rfl)
          have hd := hst.defers
          have HW := hidden hW
          clear hv hW
          (try go_wp2)
          refine bodyPost_ret (results_tmp rfl _ _ _) hd ?_
          rw [h8]
          exact ⟨rfl, below_then (HBE.out ▸ HBC.out) HBC.out.size HW.out⟩
namespace lawMunchParts
open Go.ChangeShapes Go.WideShapes Go.ChangeAt Go.RowKit Go.Deep
open Go.ChangeMaps (open_string shut_string)

set_option maxRecDepth 100000 in
theorem lifted (os : Os) (started : os.Started) (H : Type) (enc : TypeId × Value → H) :
    ReturnsInHanded {} Try.checked os 6 .any (Rows.munchPartsSpec.pre6 enc Try.prog Try.f6 Rows.munchPartsRow.domain false) (Rows.munchPartsSpec.post enc Try.prog Try.f6 false true false false) := by
  refine returnsInHanded_of_change (C := Try.checked) own started (by kernel_rfl) Try.func6
    (ChangeSpec.witness6 (enc := enc) (C := Try.checked) false ⟨#[], #[dfaA (fun _ => 0) 0 (.slice none 0 0) (.slice none 0 0), .string ⟨#[]⟩, .int .u8 0], []⟩ 8 (by kernel_rfl) (by kernel_rfl) (by kernel_rfl) (by kernel_rfl)) ?_
  intro W base args ds gs before hval0 hW hcnd _
  have hval : ∀ (j : Nat) t v, Try.f6.params[j]? = some t → args[j]? = some v → Value.okWide Try.prog W .any base t v := hval0
  have hW' : DataW.Whole enc Try.prog Try.f6.params.toList Rows.munchPartsSpec.vars false W args.toList ds gs before := hW
  obtain ⟨p, q, hA0, hV, rfl, hfz, hnd⟩ := hW
  have hA : DataW.TrodAll enc Try.prog W 0 (fun _ => true) true Try.f6.params.toList args.toList ds p := hA0
  have hlt : ∀ x ∈ p, x.block < W.heap.size := fun x hx => hW'.lt x (List.mem_append_left _ hx)
  rw [Try.params6] at hA hval
  obtain ⟨v0, vs0, d0, ds0, p0, q0, hargs, hd0, hp0, h0, r0⟩ := trodAll_cons hA
  obtain ⟨v1, vs1, d1, ds1, p1, q1, rfl, hd1, hp1, h1, r1⟩ := trodAll_cons r0
  obtain ⟨v2, vs2, d2, ds2, p2, q2, rfl, hd2, hp2, h2, r2⟩ := trodAll_cons r1
  obtain ⟨rfl, _, _⟩ := trodAll_nil r2
  obtain rfl : args = #[v0, v1, v2] := by cases args; simp_all
  obtain ⟨s0a, s0b, z0, rfl, w0⟩ := open_dfa (hval 0 26 v0 rfl rfl) h0
  obtain ⟨a1, rfl, _, _, w1⟩ := open_string Try.underlying9 (hval 1 9 v1 rfl rfl) h1
  obtain ⟨a2, rfl, _, _, w2⟩ := open_int Try.underlying5 (hval 2 5 v2 rfl rfl) h2
  refine (walkMunchParts s0a s0b z0 a1 a2 W w0 w1 (wf_u8 w2)).mono fun e W' ⟨he, hb⟩ => ⟨_, he, ends_true hW' rfl (by kernel_rfl) ?_ (by kernel_rfl) hb⟩
  intro xs hxs
  match xs, hxs with
  | [_, _, _], _ => rfl

theorem proved : Rows.MunchPartsSaid :=
  OpenClaim.holds_of_wide 6 Try.f6 rfl rfl rfl rfl rfl rfl rfl ⟨rfl, rfl, rfl, rfl, rfl⟩ rfl rfl rfl rfl rfl (by kernel_rfl) Try.func6 (by kernel_rfl)
    (of_decide_eq_true (by kernel_rfl)) (by unfold Func.isWrapper; first | (rw [if_pos (by decide +kernel)]; kernel_rfl) | (rw [if_neg (by decide +kernel)]; exact ⟨rfl, rfl⟩))
    (fun os started H enc _ => lifted os started H enc)

end lawMunchParts
end Go.Proofs.Ytgaadndhecokfaa
