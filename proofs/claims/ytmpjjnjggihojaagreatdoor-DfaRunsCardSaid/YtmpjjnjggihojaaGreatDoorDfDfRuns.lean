/- 'DfaRuns' answers true for every machine, state, byte and word: Right, Go, Run and Label answer as the reference does, and the chapter's machine answers as it should. Conditions: the three listed tables (of math/bits, and of strconv's powers of ten) hold what their initialisers lay (listed and tied). -/
import Derived.Test.YtmpjjnjggihojaaGreatDoorDf35
import Derived.Test.YtmpjjnjggihojaaGreatDoorDf37
import Derived.Test.YtmpjjnjggihojaaGreatDoorDf36
import Derived.Test.YtmpjjnjggihojaaGreatDoorDf14
namespace Go.Proofs.YtmpjjnjggihojaaGreatDoor
open Go.RowKit Go.Lib Go.Joins Go.Maps
attribute [local go_sem] Rl.evalR_tmp Rl.evalR_const Rl.evalR_global Rl.evalR_func

set_option maxHeartbeats 16000000 in
set_option maxRecDepth 100000 in
theorem walkDfRuns (vn vl : Value) (D : DfaM) (st b : Int) (s : ByteArray) (w : World) (h : RdDfa w.heap.size w vn vl D) (_ : -9223372036854775808 ≤ st ∧ st ≤ 9223372036854775807) (hbb : 0 ≤ b ∧ b ≤ 255) (hs : s.size ≤ maxLen) (ht : Pow w) :
    Calls Tryz.prog 4 #[dfaA D.cls D.width vn vl, .int .i64 st, .int .u8 b, .string s] w fun e w' => e = .returned (.bool true) ∧ Below w.heap.size w w' := by
  obtain ⟨c, rfl⟩ := Int.eq_ofNat_of_zero_le hbb.1
  have hc : c < 256 := by omega
  have HRD := hidden h
  have HCB := hidden hc
  have HSZ := hidden hs
  have HPW := hidden (fun W (hb : Below w.heap.size w W) => (show Pow W from tabBelow_of_tabIs ht W hb))
  have HX0 := hidden (DfaAt.new w D.cls D.width vn vl)
  have HB0 := hidden ((Below.refl w.heap.size w).alloc (Nat.le_refl _) (.cells (dfaC D.cls D.width vn vl) 32))
  have HSM := hidden (smallM_calls (h.below HB0.out HB0.out.size))
  have hbx := run_box_dfa D.cls D.width vn vl
  clear h hbb hc hs ht
  go_enter Tryz.func4, Tryz.ntmps4
  go_wp2_with (refine load_dfa rfl (x := .tmp 4) rfl rfl HX0.out ?_)
  refine HSM.out.mono ?_
  rintro e wa ⟨rfl, hb1⟩
  have HX := hidden (HX0.out.below hb1)
  have HBA := hidden (below_then HB0.out HB0.out.size hb1)
  obtain ⟨B, hB⟩ : ∃ B, B = w.heap.size := ⟨_, rfl⟩
  rw [← hB] at HX ⊢
  have HBE := hidden hB
  clear hb1 hB HX0 HB0 HSM
  cases hsm : smallM D with
  | false =>
    clear hsm
    go_wp2_with fail
    refine (knows14_calls _ (HPW.out _ HBA.out)).mono ?_
    rintro e w2 ⟨rfl, hb2⟩
    go_wp2
    go_ret
    exact ⟨rfl, below_then (HBE.out ▸ HBA.out) HBA.out.size hb2⟩
  | true =>
    clear hsm
    by_cases p1 : 60 < s.size
    · have q2 : decide ((60 : Int) < (s.size : Int)) = true := decide_eq_true (by omega)
      have q3 : decide (60 < s.size) = true := decide_eq_true p1
      clear p1
      go_wp2_with fail
      refine (knows14_calls _ (HPW.out _ HBA.out)).mono ?_
      rintro e w2 ⟨rfl, hb2⟩
      go_wp2
      go_ret
      exact ⟨rfl, below_then HBA.out HBA.out.size hb2⟩
    have q2 : decide ((60 : Int) < (s.size : Int)) = false := decide_eq_false (by omega)
    have q3 : decide (60 < s.size) = false := decide_eq_false p1
    clear p1
    obtain ⟨rr, hrr⟩ : ∃ x, x = rightD D := ⟨_, rfl⟩
    obtain ⟨gg, hgg⟩ : ∃ x, x = goD D st c := ⟨_, rfl⟩
    obtain ⟨ru, hru⟩ : ∃ x, x = runD D (s.data.toList.map (·.toNat)) := ⟨_, rfl⟩
    obtain ⟨la, hla⟩ : ∃ x, x = labelD D st := ⟨_, rfl⟩
    have hba : Below w.heap.size w wa := HBA.out
    have hrd : ∀ W, Below wa.heap.size wa W → RdDfa W.heap.size W vn vl D := fun W hb => HRD.out.below (below_then hba hba.size hb) (Nat.le_trans hba.size hb.size)
    have HR := hidden (fun W (hb : Below wa.heap.size wa W) => (show Calls Tryz.prog 12 #[dfaA D.cls D.width vn vl] W fun e w' => e = .returned (.bool rr) ∧ Below W.heap.size W w' from hrr ▸ right14_calls (hrd W hb)))
    have HRR := hidden (fun W (hb : Below wa.heap.size wa W) => (show Calls Tryz.prog 14 #[dfaA D.cls D.width vn vl] W fun e w' => e = .returned (.bool rr) ∧ Below W.heap.size W w' from hrr ▸ rright14_calls (hrd W hb)))
    have HG := hidden (fun W (hb : Below wa.heap.size wa W) => (show Calls Tryz.prog 15 #[dfaA D.cls D.width vn vl, .int .i64 st, .int .u8 (c : Nat)] W fun e w' => e = .returned (.int .i64 gg) ∧ Below W.heap.size W w' from hgg ▸ go_calls st c (hrd W hb) HCB.out))
    have HRG := hidden (fun W (hb : Below wa.heap.size wa W) => (show Calls Tryz.prog 16 #[dfaA D.cls D.width vn vl, .int .i64 st, .int .u8 (c : Nat)] W fun e w' => e = .returned (.int .i64 gg) ∧ Below W.heap.size W w' from hgg ▸ rgo_calls st c (hrd W hb) HCB.out))
    have HRU := hidden (fun W (hb : Below wa.heap.size wa W) => (show Calls Tryz.prog 17 #[dfaA D.cls D.width vn vl, .string s] W fun e w' => e = .returned (.int .i64 ru) ∧ Below W.heap.size W w' from hru ▸ run14_calls s (hrd W hb) HSZ.out))
    have HRRU := hidden (fun W (hb : Below wa.heap.size wa W) => (show Calls Tryz.prog 18 #[dfaA D.cls D.width vn vl, .string s] W fun e w' => e = .returned (.int .i64 ru) ∧ Below W.heap.size W w' from hru ▸ rrun14_calls s (hrd W hb) HSZ.out))
    have HL := hidden (fun W (hb : Below wa.heap.size wa W) => (show Calls Tryz.prog 19 #[dfaA D.cls D.width vn vl, .int .i64 st] W fun e w' => e = .returned (.int .i64 la) ∧ Below W.heap.size W w' from hla ▸ label_calls st (hrd W hb)))
    have HRL := hidden (fun W (hb : Below wa.heap.size wa W) => (show Calls Tryz.prog 20 #[dfaA D.cls D.width vn vl, .int .i64 st] W fun e w' => e = .returned (.int .i64 la) ∧ Below W.heap.size W w' from hla ▸ rlabel_calls st (hrd W hb)))
    have HK := hidden (fun W (hb : Below wa.heap.size wa W) => knows14_calls W (HPW.out W (below_then hba hba.size hb)))
    clear hrr hgg hru hla hba hrd
    go_wp2_with fail
    refine Rl.wp_region_steps (R := fun w1 w2 => Below w1.heap.size w1 w2) (Rl.typ [ Rl.Is (dfaA D.cls D.width vn vl), Rl.Is (.bool rr), Rl.Is (dfaA D.cls D.width vn vl), Rl.Is (.bool rr), Rl.Is (.bool true), Rl.Is (.bool true), Rl.Is (dfaA D.cls D.width vn vl), Rl.Is (.int .i64 st), Rl.Is (.int .u8 (c : Nat)), Rl.Is (.int .i64 gg), Rl.Is (dfaA D.cls D.width vn vl), Rl.Is (.int .i64 st), Rl.Is (.int .u8 (c : Nat)), Rl.Is (.int .i64 gg), Rl.Is (.bool true), Rl.Is (.bool true), Rl.Is (.bool true), Rl.Is (dfaA D.cls D.width vn vl), Rl.Is (.string s), Rl.Is (.int .i64 ru), Rl.Is (dfaA D.cls D.width vn vl), Rl.Is (.string s), Rl.Is (.int .i64 ru), Rl.Is (.bool true), Rl.Is (.bool true), Rl.Is (.bool true), Rl.Is (dfaA D.cls D.width vn vl), Rl.Is (.int .i64 st), Rl.Is (.int .i64 la), Rl.Is (dfaA D.cls D.width vn vl), Rl.Is (.int .i64 st), Rl.Is (.int .i64 la), Rl.Is (.bool true), Rl.Is (.bool true), Rl.Is (.bool true), Rl.Is (.bool true), Rl.Is (.bool true), Rl.Is (.bool true)]) (fun w1 => Below wa.heap.size wa w1) (by kernel_rfl) (by kernel_rfl) (by kernel_rfl) (by kernel_rfl) ?mono (Below.refl _ _).drew [5, 16, 25, 34] (by kernel_rfl) ?guards ?step ?fin
    case mono =>
      refine Rl.typ_mono ?_
      simp only [List.forall_mem_cons]
      repeat' (first | exact (fun v w w' h _ => h) | (intro p hp; cases hp; done) | refine And.intro ?_ ?_)
    case guards =>
      intro g hg v w h
      simp at hg
      rcases hg with rfl | rfl | rfl | rfl <;> exact h
    case step =>
      refine ⟨?_, ?_, ?_, ?_, ?_, ?_, ?_, ?_, ?_, ?_, ?_, ?_, ?_, ?_, ?_, ?_, ?_, ?_, ?_, ?_, ?_, ?_, ?_, ?_, ?_, ?_, ?_, ?_, ?_, ?_, ?_, ?_, ?_, ?_, ?_, ?_, ?_, ?_, trivial⟩
      · intro ρ w1 hF hW
        have e4 : ρ 4 = .pointer (some ⟨B, 0, none⟩) := hF 4 (by decide)
        have HW := hidden hW
        exact does_load_dfa rfl e4 (HX.out.below HW.out) ⟨rfl, HW.out, Below.refl _ _⟩
      · intro ρ w1 hF hW
        have e18 : ρ 18 = dfaA D.cls D.width vn vl := hF 18 (by decide)
        have HW := hidden hW
        clear hF hW
        unfold Rl.Does
        go_simp
        refine (HR.out _ HW.out).mono ?_
        rintro e w2 ⟨rfl, hb⟩
        exact ⟨_, rfl, rfl, below_after HW.out hb, hb⟩
      · intro ρ w1 hF hW
        have e4 : ρ 4 = .pointer (some ⟨B, 0, none⟩) := hF 4 (by decide)
        have HW := hidden hW
        exact does_load_dfa rfl e4 (HX.out.below HW.out) ⟨rfl, HW.out, Below.refl _ _⟩
      · intro ρ w1 hF hW
        have e20 : ρ 20 = dfaA D.cls D.width vn vl := hF 20 (by decide)
        have HW := hidden hW
        clear hF hW
        unfold Rl.Does
        go_simp
        refine (HRR.out _ HW.out).mono ?_
        rintro e w2 ⟨rfl, hb⟩
        exact ⟨_, rfl, rfl, below_after HW.out hb, hb⟩
      · intro ρ w1 hF hW
        have e19 : ρ 19 = .bool rr := hF 19 (by decide)
        have e21 : ρ 21 = .bool rr := hF 21 (by decide)
        have HW := hidden hW
        clear hF hW
        unfold Rl.Does
        go_simp
        first
          | exact ⟨rfl, HW.out, Below.refl _ _⟩
          | (simp; exact ⟨rfl, HW.out, Below.refl _ _⟩)
      · intro ρ w1 hF hW
        have e22 : ρ 22 = .bool true := hF 22 (by decide)
        have HW := hidden hW
        clear hF hW
        unfold Rl.Does
        go_simp
        first
          | exact ⟨rfl, HW.out, Below.refl _ _⟩
          | (simp; exact ⟨rfl, HW.out, Below.refl _ _⟩)
      · intro ρ w1 hF hW
        have e4 : ρ 4 = .pointer (some ⟨B, 0, none⟩) := hF 4 (by decide)
        have HW := hidden hW
        exact does_load_dfa rfl e4 (HX.out.below HW.out) ⟨rfl, HW.out, Below.refl _ _⟩
      · intro ρ w1 hF hW
        have e1 : ρ 1 = .int .i64 st := hF 1 (by decide)
        have HW := hidden hW
        clear hF hW
        unfold Rl.Does
        go_simp
        first
          | exact ⟨rfl, HW.out, Below.refl _ _⟩
          | (simp; exact ⟨rfl, HW.out, Below.refl _ _⟩)
      · intro ρ w1 hF hW
        have e2 : ρ 2 = .int .u8 (c : Nat) := hF 2 (by decide)
        have HW := hidden hW
        clear hF hW
        unfold Rl.Does
        go_simp
        first
          | exact ⟨rfl, HW.out, Below.refl _ _⟩
          | (simp; exact ⟨rfl, HW.out, Below.refl _ _⟩)
      · intro ρ w1 hF hW
        have e24 : ρ 24 = dfaA D.cls D.width vn vl := hF 24 (by decide)
        have e25 : ρ 25 = .int .i64 st := hF 25 (by decide)
        have e26 : ρ 26 = .int .u8 (c : Nat) := hF 26 (by decide)
        have HW := hidden hW
        clear hF hW
        unfold Rl.Does
        go_simp
        refine (HG.out _ HW.out).mono ?_
        rintro e w2 ⟨rfl, hb⟩
        exact ⟨_, rfl, rfl, below_after HW.out hb, hb⟩
      · intro ρ w1 hF hW
        have e4 : ρ 4 = .pointer (some ⟨B, 0, none⟩) := hF 4 (by decide)
        have HW := hidden hW
        exact does_load_dfa rfl e4 (HX.out.below HW.out) ⟨rfl, HW.out, Below.refl _ _⟩
      · intro ρ w1 hF hW
        have e1 : ρ 1 = .int .i64 st := hF 1 (by decide)
        have HW := hidden hW
        clear hF hW
        unfold Rl.Does
        go_simp
        first
          | exact ⟨rfl, HW.out, Below.refl _ _⟩
          | (simp; exact ⟨rfl, HW.out, Below.refl _ _⟩)
      · intro ρ w1 hF hW
        have e2 : ρ 2 = .int .u8 (c : Nat) := hF 2 (by decide)
        have HW := hidden hW
        clear hF hW
        unfold Rl.Does
        go_simp
        first
          | exact ⟨rfl, HW.out, Below.refl _ _⟩
          | (simp; exact ⟨rfl, HW.out, Below.refl _ _⟩)
      · intro ρ w1 hF hW
        have e28 : ρ 28 = dfaA D.cls D.width vn vl := hF 28 (by decide)
        have e29 : ρ 29 = .int .i64 st := hF 29 (by decide)
        have e30 : ρ 30 = .int .u8 (c : Nat) := hF 30 (by decide)
        have HW := hidden hW
        clear hF hW
        unfold Rl.Does
        go_simp
        refine (HRG.out _ HW.out).mono ?_
        rintro e w2 ⟨rfl, hb⟩
        exact ⟨_, rfl, rfl, below_after HW.out hb, hb⟩
      · intro ρ w1 hF hW
        have e27 : ρ 27 = .int .i64 gg := hF 27 (by decide)
        have e31 : ρ 31 = .int .i64 gg := hF 31 (by decide)
        have HW := hidden hW
        clear hF hW
        unfold Rl.Does
        go_simp
        first
          | exact ⟨rfl, HW.out, Below.refl _ _⟩
          | (simp; exact ⟨rfl, HW.out, Below.refl _ _⟩)
      · intro ρ w1 hF hW
        have e23 : ρ 23 = .bool true := hF 23 (by decide)
        have e32 : ρ 32 = .bool true := hF 32 (by decide)
        have HW := hidden hW
        clear hF hW
        unfold Rl.Does
        go_simp
        first
          | exact ⟨rfl, HW.out, Below.refl _ _⟩
          | (simp; exact ⟨rfl, HW.out, Below.refl _ _⟩)
      · intro ρ w1 hF hW
        have e33 : ρ 33 = .bool true := hF 33 (by decide)
        have HW := hidden hW
        clear hF hW
        unfold Rl.Does
        go_simp
        first
          | exact ⟨rfl, HW.out, Below.refl _ _⟩
          | (simp; exact ⟨rfl, HW.out, Below.refl _ _⟩)
      · intro ρ w1 hF hW
        have e4 : ρ 4 = .pointer (some ⟨B, 0, none⟩) := hF 4 (by decide)
        have HW := hidden hW
        exact does_load_dfa rfl e4 (HX.out.below HW.out) ⟨rfl, HW.out, Below.refl _ _⟩
      · intro ρ w1 hF hW
        have e3 : ρ 3 = .string s := hF 3 (by decide)
        have HW := hidden hW
        clear hF hW
        unfold Rl.Does
        go_simp
        first
          | exact ⟨rfl, HW.out, Below.refl _ _⟩
          | (simp; exact ⟨rfl, HW.out, Below.refl _ _⟩)
      · intro ρ w1 hF hW
        have e35 : ρ 35 = dfaA D.cls D.width vn vl := hF 35 (by decide)
        have e36 : ρ 36 = .string s := hF 36 (by decide)
        have HW := hidden hW
        clear hF hW
        unfold Rl.Does
        go_simp
        refine (HRU.out _ HW.out).mono ?_
        rintro e w2 ⟨rfl, hb⟩
        exact ⟨_, rfl, rfl, below_after HW.out hb, hb⟩
      · intro ρ w1 hF hW
        have e4 : ρ 4 = .pointer (some ⟨B, 0, none⟩) := hF 4 (by decide)
        have HW := hidden hW
        exact does_load_dfa rfl e4 (HX.out.below HW.out) ⟨rfl, HW.out, Below.refl _ _⟩
      · intro ρ w1 hF hW
        have e3 : ρ 3 = .string s := hF 3 (by decide)
        have HW := hidden hW
        clear hF hW
        unfold Rl.Does
        go_simp
        first
          | exact ⟨rfl, HW.out, Below.refl _ _⟩
          | (simp; exact ⟨rfl, HW.out, Below.refl _ _⟩)
      · intro ρ w1 hF hW
        have e38 : ρ 38 = dfaA D.cls D.width vn vl := hF 38 (by decide)
        have e39 : ρ 39 = .string s := hF 39 (by decide)
        have HW := hidden hW
        clear hF hW
        unfold Rl.Does
        go_simp
        refine (HRRU.out _ HW.out).mono ?_
        rintro e w2 ⟨rfl, hb⟩
        exact ⟨_, rfl, rfl, below_after HW.out hb, hb⟩
      · intro ρ w1 hF hW
        have e37 : ρ 37 = .int .i64 ru := hF 37 (by decide)
        have e40 : ρ 40 = .int .i64 ru := hF 40 (by decide)
        have HW := hidden hW
        clear hF hW
        unfold Rl.Does
        go_simp
        first
          | exact ⟨rfl, HW.out, Below.refl _ _⟩
          | (simp; exact ⟨rfl, HW.out, Below.refl _ _⟩)
      · intro ρ w1 hF hW
        have e34 : ρ 34 = .bool true := hF 34 (by decide)
        have e41 : ρ 41 = .bool true := hF 41 (by decide)
        have HW := hidden hW
        clear hF hW
        unfold Rl.Does
        go_simp
        first
          | exact ⟨rfl, HW.out, Below.refl _ _⟩
          | (simp; exact ⟨rfl, HW.out, Below.refl _ _⟩)
      · intro ρ w1 hF hW
        have e42 : ρ 42 = .bool true := hF 42 (by decide)
        have HW := hidden hW
        clear hF hW
        unfold Rl.Does
        go_simp
        first
          | exact ⟨rfl, HW.out, Below.refl _ _⟩
          | (simp; exact ⟨rfl, HW.out, Below.refl _ _⟩)
      · intro ρ w1 hF hW
        have e4 : ρ 4 = .pointer (some ⟨B, 0, none⟩) := hF 4 (by decide)
        have HW := hidden hW
        exact does_load_dfa rfl e4 (HX.out.below HW.out) ⟨rfl, HW.out, Below.refl _ _⟩
      · intro ρ w1 hF hW
        have e1 : ρ 1 = .int .i64 st := hF 1 (by decide)
        have HW := hidden hW
        clear hF hW
        unfold Rl.Does
        go_simp
        first
          | exact ⟨rfl, HW.out, Below.refl _ _⟩
          | (simp; exact ⟨rfl, HW.out, Below.refl _ _⟩)
      · intro ρ w1 hF hW
        have e44 : ρ 44 = dfaA D.cls D.width vn vl := hF 44 (by decide)
        have e45 : ρ 45 = .int .i64 st := hF 45 (by decide)
        have HW := hidden hW
        clear hF hW
        unfold Rl.Does
        go_simp
        refine (HL.out _ HW.out).mono ?_
        rintro e w2 ⟨rfl, hb⟩
        exact ⟨_, rfl, rfl, below_after HW.out hb, hb⟩
      · intro ρ w1 hF hW
        have e4 : ρ 4 = .pointer (some ⟨B, 0, none⟩) := hF 4 (by decide)
        have HW := hidden hW
        exact does_load_dfa rfl e4 (HX.out.below HW.out) ⟨rfl, HW.out, Below.refl _ _⟩
      · intro ρ w1 hF hW
        have e1 : ρ 1 = .int .i64 st := hF 1 (by decide)
        have HW := hidden hW
        clear hF hW
        unfold Rl.Does
        go_simp
        first
          | exact ⟨rfl, HW.out, Below.refl _ _⟩
          | (simp; exact ⟨rfl, HW.out, Below.refl _ _⟩)
      · intro ρ w1 hF hW
        have e47 : ρ 47 = dfaA D.cls D.width vn vl := hF 47 (by decide)
        have e48 : ρ 48 = .int .i64 st := hF 48 (by decide)
        have HW := hidden hW
        clear hF hW
        unfold Rl.Does
        go_simp
        refine (HRL.out _ HW.out).mono ?_
        rintro e w2 ⟨rfl, hb⟩
        exact ⟨_, rfl, rfl, below_after HW.out hb, hb⟩
      · intro ρ w1 hF hW
        have e46 : ρ 46 = .int .i64 la := hF 46 (by decide)
        have e49 : ρ 49 = .int .i64 la := hF 49 (by decide)
        have HW := hidden hW
        clear hF hW
        unfold Rl.Does
        go_simp
        first
          | exact ⟨rfl, HW.out, Below.refl _ _⟩
          | (simp; exact ⟨rfl, HW.out, Below.refl _ _⟩)
      · intro ρ w1 hF hW
        have e43 : ρ 43 = .bool true := hF 43 (by decide)
        have e50 : ρ 50 = .bool true := hF 50 (by decide)
        have HW := hidden hW
        clear hF hW
        unfold Rl.Does
        go_simp
        first
          | exact ⟨rfl, HW.out, Below.refl _ _⟩
          | (simp; exact ⟨rfl, HW.out, Below.refl _ _⟩)
      · intro ρ w1 hF hW
        have e51 : ρ 51 = .bool true := hF 51 (by decide)
        have HW := hidden hW
        clear hF hW
        unfold Rl.Does
        go_simp
        first
          | exact ⟨rfl, HW.out, Below.refl _ _⟩
          | (simp; exact ⟨rfl, HW.out, Below.refl _ _⟩)
      · intro ρ w1 hF hW
        have HW := hidden hW
        clear hF hW
        unfold Rl.Does
        go_simp
        refine (HK.out _ HW.out).mono ?_
        rintro e w2 ⟨rfl, hb⟩
        exact ⟨_, rfl, rfl, below_after HW.out hb, hb⟩
      · intro ρ w1 hF hW
        have e52 : ρ 52 = .bool true := hF 52 (by decide)
        have e53 : ρ 53 = .bool true := hF 53 (by decide)
        have HW := hidden hW
        clear hF hW
        unfold Rl.Does
        go_simp
        first
          | exact ⟨rfl, HW.out, Below.refl _ _⟩
          | (simp; exact ⟨rfl, HW.out, Below.refl _ _⟩)
      · intro ρ w1 hF hW
        have e54 : ρ 54 = .bool true := hF 54 (by decide)
        have HW := hidden hW
        clear hF hW
        unfold Rl.Does
        go_simp
        first
          | exact ⟨rfl, HW.out, Below.refl _ _⟩
          | (simp; exact ⟨rfl, HW.out, Below.refl _ _⟩)
    case fin =>
      intro a1 w11 hst hv hW
      have h8 : a1.tmps.getD 8 undef = .bool true := hv 37 8 (by kernel_rfl)
      have hd := hst.defers
      have HW := hidden hW
      clear hv hW
      (try go_wp2)
      refine bodyPost_ret (results_tmp rfl _ _ _) hd ?_
      rw [h8]
      exact ⟨rfl, below_then HBA.out HBA.out.size HW.out⟩
namespace lawDfaRuns
open Go.ChangeShapes Go.WideShapes Go.ChangeAt Go.RowKit Go.Deep
open Go.ChangeMaps (open_string shut_string)
set_option maxRecDepth 100000 in
theorem lifted (os : Os) (started : os.Started) (H : Type) (enc : TypeId × Value → H) :
    ReturnsInHanded {} Tryz.checked os 4 .any (fun w args => (Rows.dfaRunsSpec.pre enc Tryz.prog Tryz.f4 Rows.dfaRunsRow.domain false w args ∧ laidMetH Tryz.prog [("math/bits.deBruijn32tab", Rows.laid_math_bits_deBruijn32tab), ("math/bits.deBruijn64tab", Rows.laid_math_bits_deBruijn64tab), ("internal/strconv.uint64pow10", Rows.laid_internal_strconv_uint64pow10)] w) ∧ sizedMet enc Tryz.prog Tryz.f4 (OpenSpec.ofChange Rows.dfaRunsSpec) false w args)
      (Rows.dfaRunsSpec.post enc Tryz.prog Tryz.f4 false true false false) := by
  refine returnsInHanded_of_change_and (C := Tryz.checked) (X := fun w _ => laidMetH Tryz.prog [("math/bits.deBruijn32tab", Rows.laid_math_bits_deBruijn32tab), ("math/bits.deBruijn64tab", Rows.laid_math_bits_deBruijn64tab), ("internal/strconv.uint64pow10", Rows.laid_internal_strconv_uint64pow10)] w) (fun _ _ _ hh h => h.of_heap hh) own started (by kernel_rfl) Tryz.func4
    (ChangeSpec.witness_shaped (enc := enc) (C := Tryz.checked) (os := os) (X := fun w _ => laidMetH Tryz.prog [("math/bits.deBruijn32tab", Rows.laid_math_bits_deBruijn32tab), ("math/bits.deBruijn64tab", Rows.laid_math_bits_deBruijn64tab), ("internal/strconv.uint64pow10", Rows.laid_internal_strconv_uint64pow10)] w) false (World.laidAll Tryz.prog os [("math/bits.deBruijn32tab", Rows.laid_math_bits_deBruijn32tab), ("math/bits.deBruijn64tab", Rows.laid_math_bits_deBruijn64tab), ("internal/strconv.uint64pow10", Rows.laid_internal_strconv_uint64pow10)]) #[dfaA (fun _ => 0) 0 (.slice none 0 0) (.slice none 0 0), .int .i64 0, .int .u8 0, .string ⟨#[]⟩] 8 (World.laidAll_os _ _ _)
      (World.shaped_of_ZipB (by kernel_rfl) (by kernel_rfl)) (by kernel_rfl) (by kernel_rfl) (by kernel_rfl)
      (by rw [MakeChecks.laidMetH_plain _ _ _ (by kernel_rfl)]; exact laidMet_laidAll _ (by kernel_rfl) (by kernel_rfl))) ?_
  intro W base args ds gs before hval0 hW hcnd _ hL _
  have hval : ∀ (j : Nat) t v, Tryz.f4.params[j]? = some t → args[j]? = some v → Value.okWide Tryz.prog W .any base t v := hval0
  have hW' : DataW.Whole enc Tryz.prog Tryz.f4.params.toList Rows.dfaRunsSpec.vars false W args.toList ds gs before := hW
  obtain ⟨p, q, hA0, hV, rfl, hfz, hnd⟩ := hW
  have hA : DataW.TrodAll enc Tryz.prog W 0 (fun _ => true) true Tryz.f4.params.toList args.toList ds p := hA0
  have ht : Pow W := of_laid (by kernel_rfl) (by kernel_rfl) (by kernel_rfl) hL
  rw [Tryz.params4] at hA hval
  obtain ⟨v0, vs0, d0, ds0, p0, q0, hargs, hd0, hp0, h0, r0⟩ := trodAll_cons hA
  obtain ⟨v1, vs1, d1, ds1, p1, q1, rfl, hd1, hp1, h1, r1⟩ := trodAll_cons r0
  obtain ⟨v2, vs2, d2, ds2, p2, q2, rfl, hd2, hp2, h2, r2⟩ := trodAll_cons r1
  obtain ⟨v3, vs3, d3, ds3, p3, q3, rfl, hd3, hp3, h3, r3⟩ := trodAll_cons r2
  obtain ⟨rfl, _, _⟩ := trodAll_nil r3
  obtain rfl : args = #[v0, v1, v2, v3] := by cases args; simp_all
  obtain ⟨s0a, s0b, z0, rfl, w0⟩ := open_dfa (hval 0 32 v0 rfl rfl) h0
  obtain ⟨a1, rfl, _, _, w1⟩ := open_int Tryz.underlying3 (hval 1 3 v1 rfl rfl) h1
  obtain ⟨a2, rfl, _, _, w2⟩ := open_int Tryz.underlying5 (hval 2 5 v2 rfl rfl) h2
  obtain ⟨a3, rfl, _, _, w3⟩ := open_string Tryz.underlying9 (hval 3 9 v3 rfl rfl) h3
  refine (walkDfRuns s0a s0b z0 a1 a2 a3 W w0 (wf_i64 w1) (wf_u8 w2) w3 ht).mono fun e W' ⟨he, hb⟩ => ⟨_, he, ends_true hW' rfl (by kernel_rfl) ?_ (by kernel_rfl) hb⟩
  intro xs hxs
  match xs, hxs with
  | [_, _, _, _], _ => rfl

theorem proved : Rows.DfaRunsSaid :=
  OpenClaim.holds_of_wide 4 Tryz.f4 rfl rfl rfl rfl rfl rfl rfl ⟨rfl, rfl, rfl, rfl, rfl⟩ rfl rfl rfl rfl rfl (by kernel_rfl) Tryz.func4 (by kernel_rfl)
    (of_decide_eq_true (by kernel_rfl)) (by unfold Func.isWrapper; first | (rw [if_pos (by decide +kernel)]; kernel_rfl) | (rw [if_neg (by decide +kernel)]; exact ⟨rfl, rfl⟩))
    (fun os started H enc _ => lifted os started H enc)

/-- the card: the row, and what it lists tied to the program's text -/
theorem card : Rows.DfaRunsCardSaid :=
  Claim7.holds_tied_plain_at .later [] [.data, .data, .data] true (true, "fb61e93243e8b48a019c411e8d844153cdeb08179d792e0bf509e74ff8910c03") false
    proved (fun _ h => by cases h) (by kernel_rfl) (fun _ h => by cases h) dfaRuns_row_tie rfl ⟨rfl, rfl⟩ (by kernel_rfl) rfl
    (fun f fn hf hfn => by
      obtain rfl : f = 4 := Option.some.inj ((show Tryz.prog.funcNamed "facsimile/facsimilelaw14.DfaRuns" = some 4 by kernel_rfl).symm.trans hf) |>.symm
      obtain rfl : fn = Tryz.f4 := (Option.some.inj (Tryz.func4.symm.trans hfn)).symm
      exact ⟨by kernel_rfl, fun j t ht => by
        rw [Tryz.params4] at ht
        have hm : t ∈ [32, 3, 5, 9] := by simpa using Array.mem_of_getElem? ht
        have hall : ([32, 3, 5, 9].all fun u => !Tryz.prog.wantsStandIn u) = true := by kernel_rfl
        exact (show Tryz.prog.wantsStandIn t = false by simpa using List.all_eq_true.1 hall t hm)⟩)
    (by kernel_rfl)

end lawDfaRuns
end Go.Proofs.YtmpjjnjggihojaaGreatDoor
