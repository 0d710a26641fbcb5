/- DfPBuilds, FaRdC, RxMake, RxJoin, put together. -/
import Derived.Test.YtmpjjnjggihojaaGreatDoorDf30
import Derived.Test.YtmpjjnjggihojaaGreatDoorDf01
import Derived.Test.YtmpjjnjggihojaaGreatDoorDf06
import Derived.RangeFuncBox
import Derived.Laws.AppendOwnNone
/- Contract of the program's Build. -/
namespace Go.Proofs.YtmpjjnjggihojaaGreatDoor
open Go.RowKit Go.Lib Go.Joins Go.Maps
attribute [local go_sem] Rl.evalR_tmp Rl.evalR_const Rl.evalR_global Rl.evalR_func

/-- as many states as rows -/
theorem cnt_next {N : NetM} {most : Int} (h : errB N most = 0) : cntB N most = ((machB N most).next.length : Int) := by
  obtain ⟨_, h1, h2, h3⟩ := errB_ok h
  have hm : fndN N most.toNat ≤ most.toNat := by omega
  have hd := (mach_done hm).1
  unfold cntB machB
  rw [if_pos h, if_pos h]
  show ((fndN N most.toNat : Nat) : Int) = ((machS N (fndN N most.toNat)).2.1.length : Int)
  rw [(mach_lens hd).1]
set_option maxHeartbeats 8000000 in
set_option maxRecDepth 100000 in
theorem Build_calls {w : World} {vs vo vl0 vf v1 : Value} {N : NetM} (most : Int) (h : RdNet w.heap.size w vs vo vl0 vf v1 N) (hw : ∀ s ∈ N.sets, s.wide) (hn : N.sets.length ≤ 900) (hp : Pow w) :
    Calls Tryz.prog 9 #[.agg #[vs, vo, vl0, vf, v1], .int .i64 most] w (RetB w N most) := by
  obtain ⟨sa, cs, rfl⟩ := h.sets.form
  have hba := (Below.refl w.heap.size w).alloc (Nat.le_refl _) (.cells #[.slice sa N.sets.length cs, vo, vl0, vf, v1] 27)
  have hbx := net_box w (.slice sa N.sets.length cs) vo vl0 vf v1 27
  obtain ⟨w0, hw0⟩ : ∃ w0, w0 = w.alloc (.cells #[.slice sa N.sets.length cs, vo, vl0, vf, v1] 27) := ⟨_, rfl⟩
  have hs0 : w0.heap.size = w.heap.size + 1 := by rw [hw0]; simp
  rw [← hw0] at hba hbx
  have HBA := hidden hba
  have HBX := hidden hbx
  have HW0 := hidden hw0
  have HS0 := hidden hs0
  have HN := hidden h
  have HW := hidden hw
  have HN9 := hidden hn
  have HPW := hidden (tabBelow_of_tabIs hp)
  have hal := run_zero_dfa
  have hbu := run_build_dfa
  have hr0 : DfaAt (w0.alloc (.cells (dfaC zG 0 (.slice none 0 0) (.slice none 0 0)) 32)) (w.heap.size + 1) zG 0 (.slice none 0 0) (.slice none 0 0) := DfaAt.newAt hs0
  have HR0 := hidden hr0
  have HB0 := hidden ((Below.refl (w.heap.size + 1) w0).alloc (Nat.le_of_eq hs0.symm) (.cells (dfaC zG 0 (.slice none 0 0) (.slice none 0 0)) 32))
  have HBW0 := hidden (hba.alloc (Nat.le_trans (Nat.le_succ _) (Nat.le_of_eq hs0.symm)) (.cells (dfaC zG 0 (.slice none 0 0) (.slice none 0 0)) 32))
  obtain ⟨m0, m1, m2, m3, m4⟩ := HBX.out _ HB0.out
  rw [hw0] at m0 m1 m2 m3 m4
  clear h hw hp hba hbx hw0 hs0 hr0 hn
  go_enter Tryz.func9, Tryz.ntmps9
  go_wp2_with fail
  rw [← HW0.out]
  obtain ⟨W1, hW1⟩ : ∃ W1, W1 = w0.alloc (.cells (dfaC zG 0 (.slice none 0 0) (.slice none 0 0)) 32) := ⟨_, rfl⟩
  rw [← hW1] at HR0 HB0 HBW0 ⊢
  clear hW1 m0 m1 m2 m3 m4
  refine (right12_calls (HN.out.below HBW0.out HBW0.out.size)).mono ?_
  rintro e w1 ⟨rfl, hb1⟩
  have HR1 := hidden (HR0.out.below hb1)
  have HB1 := hidden (below_then HB0.out (by have := HB0.out.size; have := HS0.out; omega) hb1)
  have HBW1 := hidden (below_then HBW0.out HBW0.out.size hb1)
  obtain ⟨m0, m1, m2, m3, m4⟩ := HBX.out _ HB1.out
  clear hb1 HR0 HB0 HBW0
  cases hr : rightB N with
  | false =>
    have HE := hidden (show errB N most = 3 by unfold errB; rw [if_pos hr])
    clear hr
    go_wp2_with (refine store_dfa rfl (x := .tmp 4) (y := .tmp 12) rfl rfl rfl HR1.out rfl rfl ?_; intro w2 hA2 hg2 hs2; have HA2 := hidden hA2; have HB2 := hidden (HBW1.out.grown hg2 HBW1.out.size (by intro k hk; simp only [Option.some.injEq] at hk; omega)); clear hA2 hg2)
    exact ret_dfa3 Tryz.results9 rfl rfl rfl rfl HA2.out (retB_none HE.out (by decide) HB2.out)
  | true =>
    have HRT := hidden hr
    clear hr
    by_cases hrg : most < 1 ∨ 4096 < most
    · have HE := hidden (show errB N most = 2 by unfold errB; rw [if_neg (by simp [HRT.out]), if_pos hrg])
      rcases hrg with hrg | hrg
      · go_wp2_with (refine store_dfa rfl (x := .tmp 4) (y := .tmp 19) rfl rfl rfl HR1.out rfl rfl ?_; intro w2 hA2 hg2 hs2; have HA2 := hidden hA2; have HB2 := hidden (HBW1.out.grown hg2 HBW1.out.size (by intro k hk; simp only [Option.some.injEq] at hk; omega)); clear hA2 hg2)
        exact ret_dfa3 Tryz.results9 rfl rfl rfl rfl HA2.out (retB_none HE.out (by decide) HB2.out)
      · have h1 : ¬ most < 1 := by omega
        go_wp2_with (refine store_dfa rfl (x := .tmp 4) (y := .tmp 19) rfl rfl rfl HR1.out rfl rfl ?_; intro w2 hA2 hg2 hs2; have HA2 := hidden hA2; have HB2 := hidden (HBW1.out.grown hg2 HBW1.out.size (by intro k hk; simp only [Option.some.injEq] at hk; omega)); clear hA2 hg2)
        exact ret_dfa3 Tryz.results9 rfl rfl rfl rfl HA2.out (retB_none HE.out (by decide) HB2.out)
    · have h1 : ¬ most < 1 := by omega
      have h2 : ¬ 4096 < most := by omega
      clear hrg
      obtain ⟨M, hM⟩ : ∃ M : Nat, (M : Int) = most := ⟨most.toNat, by omega⟩
      have HPB := hidden (pbuild_calls (w := w1) hM (by omega) (by omega) (HN.out.below HBW1.out HBW1.out.size) HW.out HRT.out HN9.out (HPW.out w1 HBW1.out))
      go_wp2_with fail
      refine HPB.out.mono ?_
      rintro e w2 ⟨g, wd, vn, vl, rfl, ho1, ho2, hrd, hb2⟩
      have HBW2 := hidden (below_then HBW1.out HBW1.out.size hb2)
      have HR2 := hidden (HR1.out.below hb2)
      have HRD := hidden hrd
      have HO := hidden (And.intro ho1 ho2)
      have hl1 := HR1.out.lt
      have hb2s := hb2.size
      clear hb2 hrd ho1 ho2 HR1 HBW1 m0 m1 m2 m3 m4
      dsimp only
      by_cases he : errB N most = 0
      · rw [decide_eq_true he]
        have HE := hidden he
        clear he
        go_wp2_with (first
          | (refine store_dfa rfl (x := .tmp 7) (y := .tmp 24) rfl rfl rfl (DfaAt.new w2 zG 0 (.slice none 0 0) (.slice none 0 0)) HO.out.1 HO.out.2 ?_; intro w3 hA3 hg3 hs3; have HA3 := hidden hA3; have HG3 := hidden hg3; have HS3 := hidden hs3; clear hA3 hg3 hs3)
          | fail)
        obtain ⟨rfl, rfl, hRD2⟩ := HRD.out HE.out
        have HRD2 := hidden hRD2
        clear hRD2 HRD
        have HCN := hidden (cnt_next HE.out)
        have hrd2 := HRD2.out w2 (fun k _ _ => rfl) (Nat.le_refl _)
        obtain ⟨an, cn, hvn⟩ := hrd2.next.form
        subst hvn
        obtain ⟨n, hn⟩ : ∃ n, n = (machB N most).next.length := ⟨_, rfl⟩
        rw [← hn] at HA3 HCN HRD2 HO ⊢
        have HR3 := hidden ((HR2.out.alloc (.cells (dfaC zG 0 (.slice none 0 0) (.slice none 0 0)) 32)).grown HG3.out (by simp only [ne_eq, Option.some.injEq]; omega))
        have HB3 := hidden ((HBW2.out.alloc HBW2.out.size (.cells (dfaC zG 0 (.slice none 0 0) (.slice none 0 0)) 32)).grown HG3.out (by have := HBW2.out.size; simp; omega) (by intro k hk; simp only [Option.some.injEq] at hk; have := HBW2.out.size; omega))
        have HSZ := hidden (show w2.heap.size < w3.heap.size from HA3.out.lt)
        have HK3 := hidden (show ∀ k, k < w2.heap.size → w3.heap[k]? = w2.heap[k]? from fun k hk => (HG3.out.block k (by simp; omega) (by simp only [ne_eq, Option.some.injEq]; omega)).trans (heap_alloc_old _ _ hk))
        obtain ⟨SL, hSL⟩ : ∃ b, b = w2.heap.size := ⟨_, rfl⟩
        have HSL := hidden hSL
        rw [← hSL] at HA3 HSZ ⊢
        obtain ⟨RB, hRB⟩ : ∃ b, b = w.heap.size + 1 := ⟨_, rfl⟩
        have HRB := hidden hRB
        rw [← hRB] at HR3 ⊢
        have HNE := hidden (show SL ≠ RB by omega)
        clear hn hSL hRB hrd2
        (try rw [Exit.noGoto_ret])
        refine Rl.wp_region_stepsH (R := R19 RB (machB N most).cls (machB N most).width (.slice an n cn) vl) (Rl.typ [Rl.Is (dfaA (machB N most).cls (machB N most).width (.slice an n cn) vl), Rl.Is (.pointer (some ⟨SL, 257, none⟩)), Rl.Is (.slice an n cn), Rl.Is (.int .i64 (n : Nat)), fun _ w1 => DfaAt w1 RB (machB N most).cls (machB N most).width (.slice an n cn) vl, Rl.Is (.int .i64 (n : Nat)), Rl.Is (.int .i64 0)]) (W19 RB w3) (by kernel_rfl) (by kernel_rfl) (by kernel_rfl) (by kernel_rfl) ?mono ⟨(But.refl _ _ _).drew, _, _, _, _, (show DfaAt w3.drew RB zG 0 (.slice none 0 0) (.slice none 0 0) from HR3.out)⟩ [] (by kernel_rfl) ?guards ?step ?fin
        case mono =>
          refine Rl.typ_mono ?_
          simp only [List.forall_mem_cons]
          repeat' (first | exact (fun v w w' h _ => h) | exact (fun v w w' h hR => hR.2 h) | (intro p hp; cases hp; done) | refine And.intro ?_ ?_)
        case guards =>
          intro g hg
          cases hg
        case step =>
          refine ⟨?_, ?_, ?_, ?_, ?_, ?_, ?_, trivial⟩
          · intro ρ w1 hF hW
            have e7 : ρ 7 = .pointer (some ⟨SL, 0, none⟩) := hF 7 (by decide)
            exact does_load_dfa rfl e7 (show DfaAt w1 SL (machB N most).cls (machB N most).width (.slice an n cn) vl from (hW.1.block SL HA3.out.lt HNE.out).trans HA3.out) ⟨rfl, hW, r19_below (Below.refl _ _)⟩
          · intro ρ w1 hF hW
            have e7 : ρ 7 = .pointer (some ⟨SL, 0, none⟩) := hF 7 (by decide)
            have HW := hidden hW
            clear hF hW
            unfold Rl.Does
            go_simp
            exact ⟨rfl, HW.out, r19_below (Below.refl _ _)⟩
          · intro ρ w1 hF hW
            have e30 : ρ 30 = .pointer (some ⟨SL, 257, none⟩) := hF 30 (by decide)
            have q1 := (show DfaAt w1 SL (machB N most).cls (machB N most).width (.slice an n cn) vl from (hW.1.block SL HA3.out.lt HNE.out).trans HA3.out).next
            have HW := hidden hW
            clear hF hW
            unfold Rl.Does
            go_simp
            exact ⟨rfl, HW.out, r19_below (Below.refl _ _)⟩
          · intro ρ w1 hF hW
            have e31 : ρ 31 = .slice an n cn := hF 31 (by decide)
            have HW := hidden hW
            clear hF hW
            unfold Rl.Does
            go_simp
            exact ⟨rfl, HW.out, r19_below (Below.refl _ _)⟩
          · intro ρ w1 hF hW
            have e4 : ρ 4 = .pointer (some ⟨RB, 0, none⟩) := hF 4 (by decide)
            have e29 : ρ 29 = dfaA (machB N most).cls (machB N most).width (.slice an n cn) vl := hF 29 (by decide)
            obtain ⟨hb1, g1, wd1, vn1, vl1, hA1⟩ := hW
            refine does_store_dfa rfl e4 e29 hA1 HO.out.1 HO.out.2 fun w2 hA2 hg2 => ⟨hA2, ⟨hb1.grown hg2 (fun k e => .inl (by simpa using e.symm)) hb1.size, _, _, _, _, hA2⟩, (But.refl _ _ _).grown hg2 (fun k e => .inl (by simpa using e.symm)) (Nat.le_refl _), fun _ => hA2⟩
          · intro ρ w1 hF hW
            have e32 : ρ 32 = .int .i64 (n : Nat) := hF 32 (by decide)
            have HW := hidden hW
            clear hF hW
            unfold Rl.Does
            go_simp
            exact ⟨rfl, HW.out, r19_below (Below.refl _ _)⟩
          · intro ρ w1 hF hW
            have HW := hidden hW
            clear hF hW
            unfold Rl.Does
            go_simp
            exact ⟨rfl, HW.out, r19_below (Below.refl _ _)⟩
        case fin =>
          intro a1 w11 hs hv hgh hW
          have h5 : a1.tmps.getD 5 undef = .int .i64 (n : Nat) := hv 5 5 (by kernel_rfl)
          have h6 : a1.tmps.getD 6 undef = .int .i64 0 := hv 6 6 (by kernel_rfl)
          obtain ⟨_, hA2⟩ : ∃ v : Value, DfaAt w11 RB (machB N most).cls (machB N most).width (.slice an n cn) vl := hgh 4 (by decide)
          have HA2 := hidden hA2
          have HGR2 := hidden (show w3.grownBy w11 (some RB) from ⟨hW.1.os, hW.1.tape, hW.1.output, hW.1.size, fun k hk hne => hW.1.block k hk fun e => hne (by rw [e])⟩)
          have hd := hs.defers
          have hz := hs.lit [29, 30, 31, 32, 5, 6] (by kernel_rfl)
          clear hs hv hgh hW hA2
          obtain ⟨tm, df⟩ := a1
          simp only at hz hd h5 h6
          simp only [List.foldl_cons, List.foldl_nil, List.setIfInBounds_toArray, List.set_cons_zero, List.set_cons_succ] at hz
          rw [h5, h6] at hz
          generalize tm.getD 29 undef = u29 at hz
          generalize tm.getD 30 undef = u30 at hz
          generalize tm.getD 31 undef = u31 at hz
          generalize tm.getD 32 undef = u32 at hz
          clear h5 h6
          subst hz hd
          (try go_wp2_with fail)
          (try rw [Exit.noGoto_ret])
          refine ret_dfa3 Tryz.results9 rfl rfl rfl rfl HA2.out ?_
          have HBW := hidden (HB3.out.grown HGR2.out HB3.out.size (by intro j hj; simp only [Option.some.injEq] at hj; have := HRB.out; omega))
          refine ⟨_, _, by rw [HE.out, HCN.out]; rfl, HRD2.out w11 (fun k h1 h2 => (HGR2.out.block k (by have := HSZ.out; have := HSL.out; omega) (by have := HRB.out; have := HB1.out.size; simp only [ne_eq, Option.some.injEq]; omega)).trans (HK3.out k h2)) (by have := HGR2.out.size; have := HSZ.out; have := HSL.out; omega), HBW.out⟩
      · rw [decide_eq_false he]
        have HE := hidden (show errB N most = 16 by
          unfold errB at he ⊢
          rw [if_neg (by simp [HRT.out]), if_neg (by omega)] at he ⊢
          split
          · rfl
          · rename_i h5
            rw [if_neg h5] at he
            exact absurd rfl he)
        clear he
        go_wp2_with (first
          | (refine store_dfa rfl (x := .tmp 7) (y := .tmp 24) rfl rfl rfl (DfaAt.new w2 zG 0 (.slice none 0 0) (.slice none 0 0)) HO.out.1 HO.out.2 ?_; intro w3 hA3 hg3 hs3; have HR3 := hidden ((HR2.out.alloc (.cells (dfaC zG 0 (.slice none 0 0) (.slice none 0 0)) 32)).grown hg3 (by simp only [ne_eq, Option.some.injEq]; omega)); have HB3 := hidden ((HBW2.out.alloc HBW2.out.size (.cells (dfaC zG 0 (.slice none 0 0) (.slice none 0 0)) 32)).grown hg3 (by have := HBW2.out.size; simp; omega) (by intro k hk; simp only [Option.some.injEq] at hk; have := HBW2.out.size; omega)); clear hA3 hg3 hs3)
          | (refine store_dfa rfl (x := .tmp 4) (y := .tmp 28) rfl rfl rfl HR3.out rfl rfl ?_; intro w4 hA4 hg4 hs4; have HA4 := hidden hA4; have HB4 := hidden (HB3.out.grown hg4 HB3.out.size (by intro k hk; simp only [Option.some.injEq] at hk; omega)); clear hA4 hg4 hs4)
          | fail)
        exact ret_dfa3 Tryz.results9 rfl rfl rfl rfl HA4.out (retB_none HE.out (by decide) HB4.out)
end Go.Proofs.YtmpjjnjggihojaaGreatDoor

/- The reference's reader: a byte that stands for itself. -/
namespace Go.Proofs.YtmpjjnjggihojaaGreatDoor
open Go.RowKit

def txt (l : List UInt8) : ByteArray := ⟨l.toArray⟩
theorem txt_size (l : List UInt8) : (txt l).size = l.length := rfl
def vis (n : Nat) : Bool := decide (32 < n) && decide (n ≤ 126)
theorem toNat_ne {c d : UInt8} (h : c ≠ d) : ((c.toNat : Int) == (d.toNat : Int)) = false := by
  rw [Bool.eq_false_iff]
  intro e
  rw [beq_iff_eq] at e
  exact h (UInt8.toNat_inj.1 (by omega))
theorem drop_at {s : ByteArray} {k : Nat} {c : UInt8} {r : List UInt8} (h : s.data.toList.drop k = c :: r) : (∃ hp : k < s.size, s[k]'hp = c) ∧ s.data.toList.drop (k + 1) = r ∧ r.length + k + 1 = s.size := by
  have hl : k < s.data.toList.length := by
    rcases Nat.lt_or_ge k s.data.toList.length with g | g
    · exact g
    · rw [List.drop_eq_nil_of_le g] at h
      cases h
  have hs : s.data.toList.length = s.size := by simp
  rw [List.drop_eq_getElem_cons hl] at h
  obtain ⟨h1, h2⟩ := List.cons.inj h
  refine ⟨⟨by omega, ?_⟩, h2, ?_⟩
  · rw [← h1]
    rfl
  · rw [← h2, List.length_drop]
    omega
theorem drop_nil {s : ByteArray} {k : Nat} (h : s.data.toList.drop k = []) : s.size ≤ k := by
  have := List.drop_eq_nil_iff.1 h
  simpa using this
/-- the byte at a place, as a number -/
theorem num_at {s : ByteArray} {k : Nat} {c : UInt8} (h : ∃ hp : k < s.size, s[k]'hp = c) : ∃ hp : k < s.size, ((s[k]'hp).toNat : Int) = (c.toNat : Int) := by
  obtain ⟨hp, e⟩ := h
  exact ⟨hp, by rw [e]⟩

set_option maxRecDepth 100000 in
theorem seen_calls (n : Nat) (w : World) : Calls Tryz.prog 111 #[.int .u8 n] w fun e w' => e = .returned (.bool (vis n)) ∧ w = w' := by
  have hv : vis n = (decide (32 < n) && decide (n ≤ 126)) := rfl
  have HV := hidden hv
  clear hv
  by_cases h1 : 32 < n
  · have d1 : decide ((33 : Int) ≤ n) = true := decide_eq_true (by omega)
    rw [decide_eq_true h1, Bool.true_and] at HV
    have d2 : decide ((n : Int) ≤ 126) = decide (n ≤ 126) := by simp; omega
    generalize decide (n ≤ 126) = c at *
    go_enter Tryz.func111, Tryz.ntmps111
    go_wp2
    go_ret
    exact ⟨ret_b HV.out.symm, rfl⟩
  · have d1 : decide ((33 : Int) ≤ n) = false := decide_eq_false (by omega)
    rw [decide_eq_false h1, Bool.false_and] at HV
    go_enter Tryz.func111, Tryz.ntmps111
    go_wp2
    go_ret
    exact ⟨ret_b HV.out.symm, rfl⟩
set_option maxHeartbeats 2000000 in
set_option maxRecDepth 100000 in
theorem in_calls (R : List UInt8) (c : UInt8) (w : World) (hR : R.length ≤ 1000) : Calls Tryz.prog 89 #[.string (txt R), .int .u8 (c.toNat : Int)] w fun e w' => e = .returned (.bool (decide (c ∈ R))) ∧ w = w' := by
  obtain ⟨s, hs⟩ : ∃ s, s = txt R := ⟨_, rfl⟩
  have hL : s.data.toList = R := by rw [hs]; rfl
  have hsz : s.size ≤ 1000 := by rw [hs, txt_size]; exact hR
  have HRes := hidden (fun (b : Bool) (h : (c ∈ R) ↔ b = true) => (show decide (c ∈ R) = b by cases b <;> simp_all))
  rw [← hs]
  have hne : ∀ d : UInt8, d ≠ c → (((d.toNat : Int)) == (c.toNat : Int)) = false := fun d h => toNat_ne h
  have HNE := hidden hne
  have HL := hidden hL
  obtain ⟨n, hn⟩ : ∃ n : Int, n = (c.toNat : Int) := ⟨_, rfl⟩
  rw [← hn] at HNE ⊢
  have HN := hidden hn
  clear hs hL hR hne hn
  go_enter Tryz.func89, Tryz.ntmps89
  go_wp2
  go_loop [5] (fun i => ∃ k : Nat, k ≤ s.size ∧ i = .int .i64 k ∧ Hid ((c ∈ R) ↔ c ∈ R.drop k)) (fun i => s.size - (RowKit.intOf i).toNat)
  case atStart => exact ⟨0, by omega, rfl, hidden Iff.rfl⟩
  case round =>
    obtain ⟨k, hk, rfl, hm⟩ := hrel
    match hd : R.drop k with
    | [] =>
      rw [← HL.out] at hd
      have h0 := drop_nil hd
      have q0 : decide ((k : Int) < s.size) = false := decide_eq_false (by omega)
      have HF := hidden (HRes.out false (by rw [hm.out, ← HL.out, hd]; simp))
      clear hm hd
      go_wp2
      go_ret
      exact ⟨ret_b HF.out.symm, rfl⟩
    | d :: t =>
      have hd2 := hd
      rw [← HL.out] at hd2
      obtain ⟨h1, h2, h3⟩ := drop_at hd2
      obtain ⟨hp, hx⟩ := num_at h1
      have q0 : decide ((k : Int) < s.size) = true := decide_eq_true (by omega)
      have hadd : IntKind.i64.wrap ((k : Int) + 1) = (k : Int) + 1 := by rw [IntKind.wrap_i64]; omega
      by_cases hdc : d = c
      · have HF := hidden (HRes.out true (by rw [hm.out, hd, hdc]; simp))
        have q1 : ((d.toNat : Int) == n) = true := by rw [hdc, HN.out]; simp
        generalize (d.toNat : Int) = m at *
        clear hm hd hd2 h1 h2 h3 hdc
        go_wp2
        go_ret
        exact ⟨ret_b HF.out.symm, rfl⟩
      · have HM := hidden (show (c ∈ R) ↔ c ∈ R.drop (k + 1) by
          rw [hm.out, hd, ← HL.out, h2]
          simp [Ne.symm hdc])
        have q1 := HNE.out d hdc
        generalize (d.toNat : Int) = m at *
        clear hm hd hd2 h1 h2 hdc
        go_wp2
        go_round
        case rel => exact ⟨k + 1, by omega, by go_num, HM⟩
        case measure => simp [RowKit.intOf]; omega
/-- the byte of a text at a place -/
def At (s : ByteArray) (p : Nat) (c : UInt8) : Prop := ∃ hp : p < s.size, ((s[p]'hp).toNat : Int) = (c.toNat : Int)
set_option maxRecDepth 100000 in
theorem rchar_at (s : ByteArray) (p : Nat) (c : UInt8) (R : List UInt8) (w : World) (hat : At s p c) (hs : s.size ≤ 1000) (hR : R.length ≤ 1000) (hv : vis c.toNat = true) (h92 : c ≠ 92) (hin : c ∉ R) :
    Calls Tryz.prog 102 #[.string s, .int .i64 (p : Int), .string (txt R)] w fun e w' => e = .returned (.tuple #[.int .u8 (c.toNat : Int), .int .i64 ((p + 1 : Nat) : Int), .bool true]) ∧ w = w' := by
  obtain ⟨hp, hx⟩ := hat
  have hI := fun w => in_calls R c w hR
  simp only [decide_eq_false hin] at hI
  have HI := hidden hI
  have hV := fun w => seen_calls c.toNat w
  simp only [hv] at hV
  have HV := hidden hV
  have q0 : decide ((s.size : Int) ≤ (p : Int)) = false := decide_eq_false (by omega)
  have q0' : decide (s.size ≤ p) = false := decide_eq_false (by omega)
  have q1 : ((c.toNat : Int) == 92) = false := toNat_ne (d := 92) h92
  have hadd : IntKind.i64.wrap ((p : Int) + 1) = ((p + 1 : Nat) : Int) := by rw [IntKind.wrap_i64]; omega
  generalize (c.toNat : Int) = n at *
  generalize txt R = T at *
  clear hI hV hv hin h92
  go_enter Tryz.func102, Tryz.ntmps102
  go_wp2_with fail
  refine (HV.out _).mono ?_
  rintro e w1 ⟨rfl, rfl⟩
  go_wp2_with fail
  refine (HI.out _).mono ?_
  rintro e w1 ⟨rfl, rfl⟩
  go_wp2
  go_ret3
  exact ⟨rfl, rfl⟩
end Go.Proofs.YtmpjjnjggihojaaGreatDoor

/- Contracts of what makes one step: step, Set, Empty, the reference's Set and Empty. -/
namespace Go.Proofs.YtmpjjnjggihojaaGreatDoor
open Go.RowKit

theorem row_one (w : World) (s : Stp) (b : Nat) (hb : b = w.heap.size) (base : Nat) (h : base ≤ w.heap.size) : RowX (w.alloc (.cells #[.int .i64 s.k, .int .u64 s.a, .int .u64 s.b, .int .u64 s.c, .int .u64 s.d] 97)) base (.slice (some ⟨b, 0, none⟩) 1 1) [s] := by
  subst hb
  exact World.ownsRow_lit (e := 97) (size := 5) w _ 1 h (by decide) rfl
theorem rset_rx (a b c d : Int) (w : World) : Calls Tryz.prog 92 #[.agg #[.int .u64 a, .int .u64 b, .int .u64 c, .int .u64 d]] w (RetX w [⟨1, a, b, c, d⟩]) := by
  go_enter Tryz.func92, Tryz.ntmps92
  go_wp2
  go_ret
  exact ⟨_, rfl, row_one _ ⟨1, a, b, c, d⟩ _ (by simp) _ (by simp), by go_grown⟩
theorem rempty_rx (w : World) : Calls Tryz.prog 103 #[] w (RetX w [kStp 2]) := by
  go_enter Tryz.func103, Tryz.ntmps103
  go_wp2
  go_ret
  exact ⟨_, rfl, row_one w (kStp 2) _ rfl _ (Nat.le_refl _), by go_grown⟩
end Go.Proofs.YtmpjjnjggihojaaGreatDoor

/- Lists of lists of steps; contracts of what joins them: the closure of joined, joined, the reference's many. -/
namespace Go.Proofs.YtmpjjnjggihojaaGreatDoor
open Go.RowKit Go.Lib Go.Joins

/-- a slice of slices of steps that reads as a list of lists; all blocks meet C -/
def Rxss (C : Nat → Prop) (w : World) (a : Option Addr) (len : Nat) (LL : List (List Stp)) : Prop :=
  LL.length = len ∧ (0 < len → ∃ b off, a = some ⟨b, off, none⟩ ∧ C b ∧ ∀ i, i < len → ∃ v, w.cell? ⟨b, off + i, none⟩ = some v ∧ SlX C w v (LL.getD i []))
def SlXs (C : Nat → Prop) (w : World) (v : Value) (LL : List (List Stp)) : Prop := ∃ a cap, v = .slice a LL.length cap ∧ LL.length ≤ cap ∧ cap ≤ maxLen ∧ Rxss C w a LL.length LL
theorem Rxss.below {C C' : Nat → Prop} {w w' : World} {a : Option Addr} {len : Nat} {LL : List (List Stp)} (h : Rxss C w a len LL) (hb : ∀ b, C b → C' b ∧ w'.heap[b]? = w.heap[b]?) : Rxss C' w' a len LL := by
  refine ⟨h.1, fun hp => ?_⟩
  obtain ⟨b, off, e, hC, hc⟩ := h.2 hp
  refine ⟨b, off, e, (hb b hC).1, fun i hi => ?_⟩
  obtain ⟨v, h1, h2⟩ := hc i hi
  exact ⟨v, (World.cell?_of_block (a := ⟨b, off + i, none⟩) (hb b hC).2).trans h1, h2.below hb⟩
theorem SlXs.below {C C' : Nat → Prop} {w w' : World} {v : Value} {LL : List (List Stp)} (h : SlXs C w v LL) (hb : ∀ b, C b → C' b ∧ w'.heap[b]? = w.heap[b]?) : SlXs C' w' v LL := by
  obtain ⟨a, cap, rfl, h1, h2, hS⟩ := h
  exact ⟨a, cap, rfl, h1, h2, hS.below hb⟩

/-- an append to a row of the call's own, from wherever the steps lie -/
theorem append_rx {P : Program} {w : World} {ops : Array Oper} {rest : List Oper} {o : Oper} {a : Act} {Q : Exit → Act → World → Prop} (hP : P = Tryz.prog) (hgd : o.guard = none) (s x : Operand)
    (ho : o.op = .call { callee := .builtin .append, args := #[s, x], argTypes := #[47, 47] })
    (base : Nat) (v u : Value) (L M : List Stp) (hs : a.eval s = v) (hown : RowX w base v L) {C : Nat → Prop} (hx : a.eval x = u) (hM : SlX C w u M) (hsz : L.length + M.length ≤ 1000000) (hbase : base ≤ w.heap.size)
    (h : ∀ a' l' c' w', RowX w' base (.slice a' l' c') (L ++ M) → w.grownBy w' v.ownBlock → wpList P ops Q rest (a.put o.dst (.slice a' l' c')) w') : wpList P ops Q (o :: rest) a w := by
  have h : ∀ v' w', RowX w' base v' (L ++ M) → w.grownBy w' v.ownBlock → wpList P ops Q rest (a.put o.dst v') w' := fun v' w' h1 h2 => by
    rcases ownsRow_forms h1 with ⟨rfl, _⟩ | ⟨g, cap, rfl⟩
    · exact h _ _ _ _ h1 h2
    · exact h _ _ _ _ h1 h2
  subst hP
  obtain ⟨i0, hi, hz0, hz1, hz2⟩ := info_parts infoRx
  obtain ⟨ad, cap, rfl, h1, h2, h0, hS⟩ := hM
  cases ad with
  | none =>
    have e0 := h0 rfl
    subst e0
    have hM0 : M = [] := List.eq_nil_of_length_eq_zero (by omega)
    subst hM0
    refine wpList_append_own_none hgd s x 47 ho base 97 i0 5 Tryz.underlying47 hi v L.length (rxCells L) hs hown hx (h v w ?_ ⟨rfl, rfl, rfl, Nat.le_refl _, fun _ _ _ => rfl⟩)
    rw [List.append_nil]
    exact hown
  | some ad =>
    obtain ⟨b, off, spot⟩ := ad
    have hnews : ∀ j z, (rxCells M)[j]? = some z → w.cell? ((⟨b, off, spot⟩ : Addr).add j) = some z := by
      by_cases hm : 0 < M.length
      · obtain ⟨b', off', e, _⟩ := hS.2 hm
        simp only [Option.some.injEq, Addr.mk.injEq] at e
        obtain ⟨rfl, rfl, rfl⟩ := e
        exact hS.news
      · have hM0 : M = [] := List.eq_nil_of_length_eq_zero (by omega)
        subst hM0
        intro j z hz
        simp [rxCells] at hz
    refine wpList_append_own w hgd s x 47 ho base 97 i0 _ 5 40 Tryz.underlying47 hi hz0 hz1 hz2 rfl (by decide) v L.length (rxCells L) hs hown ⟨b, off, spot⟩ M.length cap (rxCells M) hx (rxCells_len M) hnews (fun z hz => rxCells_one hz) (by unfold maxLen; omega) (by omega) hbase fun v' w' h3 h4 _ => h v' w' (RowX.more h3) h4
/-! ### lists of steps put behind one another -/
def jt (k : Int) : List (List Stp) → List Stp
  | [] => []
  | x :: r => x ++ [kStp k] ++ jt k r
def jn (k : Int) : List (List Stp) → List Stp
  | [] => []
  | x :: r => x ++ jt k r
theorem jt_append (k : Int) : ∀ a b, jt k (a ++ b) = jt k a ++ jt k b
  | [], b => rfl
  | x :: r, b => by simp [jt, jt_append k r b]
theorem take_moreL (R : List (List Stp)) (i : Nat) (h : i < R.length) : R.take (i + 1) = R.take i ++ [R.getD i []] := by
  rw [List.take_succ_eq_append_getElem h, List.getD_eq_getElem?_getD, List.getElem?_eq_getElem h]
  rfl
theorem jt_take (k : Int) (R : List (List Stp)) (i : Nat) (h : i < R.length) : jt k (R.take (i + 1)) = jt k (R.take i) ++ R.getD i [] ++ [kStp k] := by
  rw [take_moreL R i h, jt_append]
  simp [jt]
theorem jt_le (k : Int) (R : List (List Stp)) (i : Nat) : (jt k (R.take i)).length ≤ (jt k R).length := by
  have := jt_append k (R.take i) (R.drop i)
  rw [List.take_append_drop] at this
  rw [this]
  simp
theorem one_slX (w : World) (s : Stp) (b : Nat) (hb : b = w.heap.size) : SlX (fun _ => True) (w.alloc (.cells #[.int .i64 s.k, .int .u64 s.a, .int .u64 s.b, .int .u64 s.c, .int .u64 s.d] 97)) (.slice (some ⟨b, 0, none⟩) 1 1) [s] :=
  SlX.below (row_one w s b hb 0 (Nat.zero_le _)).reads fun _ _ => ⟨trivial, rfl⟩
end Go.Proofs.YtmpjjnjggihojaaGreatDoor
