/- 'DfaBound' answers true for every list of tokens and every byte: Build refuses a net that needs more states than it may have, refuses it with less, too, and takes no more and no fewer than it needs. Conditions: the three listed tables (of math/bits, and of strconv's powers of ten) hold what their initialisers lay (listed and tied). -/
import Derived.Test.YtmpjjnjggihojaaGreatDoorDf35
import Derived.Test.YtmpjjnjggihojaaGreatDoorDf36
import Derived.Test.YtmpjjnjggihojaaGreatDoorDf37
import Derived.Test.YtmpjjnjggihojaaGreatDoorDf38
namespace Go.Proofs.YtmpjjnjggihojaaGreatDoor
open Go.RowKit Go.Lib Go.Joins Go.Maps

set_option maxHeartbeats 16000000 in
set_option maxRecDepth 100000 in
theorem walkDfBound (a0 : Option Addr) (len0 cap0 : Nat) (T : List (List Stp)) (b : Int) (w : World) (h : Toks (fun b => b < w.heap.size) w (.slice a0 len0 cap0) T ∧ ∀ i, ∀ s ∈ T.getD i [], s.fit) (hbb : 0 ≤ b ∧ b ≤ 255) (ht : Pow w) :
    Calls Tryz.prog 6 #[.slice a0 len0 cap0, .int .u8 b] w fun e w' => e = .returned (.bool true) ∧ Below w.heap.size w w' := by
  obtain ⟨hT, hfit⟩ := h
  have hwd : ∀ i, ∀ s ∈ T.getD i [], s.wide := fun i s hs => fit_wide (hfit i s hs)
  have HPW := hidden (fun W (hb : Below w.heap.size w W) => (show Pow W from tabBelow_of_tabIs ht W hb))
  have HV := hidden hT
  have HF := hidden (Few_calls hT)
  have hal := run_zero_dfa
  by_cases hfew : fewB T = true
  case neg =>
    have hfew' : fewB T = false := by simpa using hfew
    rw [hfew'] at HF
    clear hT hfit hwd ht hfew hfew'
    go_enter Tryz.func6, Tryz.ntmps6
    go_wp2_with fail
    refine HF.out.mono ?_
    rintro e w1 ⟨rfl, rfl⟩
    go_wp2_with fail
    refine (knows14_calls _ (HPW.out _ (Below.refl _ _))).mono ?_
    rintro e w4 ⟨rfl, hb4⟩
    go_wp2
    go_ret
    exact ⟨rfl, hb4⟩
  rw [hfew] at HF
  have HFT := hidden (few_yes hfew hwd)
  have HFS := hidden (few_sets hfew hwd)
  have HRT := hidden (fuseM_right HFT.out)
  have HWD := hidden (fuseM_wide hwd)
  have HFUSE := hidden (rFuse_calls HV.out (fun b hb => hb) HFT.out)
  obtain ⟨N, hNN⟩ : ∃ N, N = fuseM T := ⟨_, rfl⟩
  rw [← hNN] at HFS HRT HWD HFUSE
  have HE60 := hidden (show errB N 60 = 0 ∨ errB N 60 = 16 by
    unfold errB
    rw [if_neg (by simp [HRT.out]), if_neg (by omega)]
    split
    · exact .inr rfl
    · exact .inl rfl)
  have HBB := hidden hbb
  clear hT hfit hwd ht hfew hNN hbb
  go_enter Tryz.func6, Tryz.ntmps6
  go_wp2_with fail
  refine HF.out.mono ?_
  rintro e w1 ⟨rfl, rfl⟩
  go_wp2_with fail
  refine HFUSE.out.mono ?_
  rintro e w2 ⟨vs, vo, vl, vf, v1, rfl, hr2, hb2⟩
  have HB2 := hidden hb2
  have HR2 := hidden hr2
  clear hr2 hb2
  unfold netV
  have HO := hidden (heap_alloc_new w2 (.cells #[.slice none 0 0, .slice none 0 0, .slice none 0 0, .slice none 0 0, .slice none 0 0] 27))
  dsimp only
  go_wp2_with (refine store_row (B := w2.heap.size) (cs := #[vs, vo, vl, vf, v1]) (old := #[.slice none 0 0, .slice none 0 0, .slice none 0 0, .slice none 0 0, .slice none 0 0]) (t := 27) rfl (ty := 27) (x := .tmp 5) (y := .tmp 23) rfl rfl rfl HO.out 5 (by kernel_rfl) rfl rfl HR2.out.one ?_; intro w3 hw3 hg3; have HL3 := hidden hw3; have HG3 := hidden hg3; obtain ⟨y0, y1, y2, y3, y4⟩ : w3.cell? ⟨w2.heap.size, 0, none⟩ = some vs ∧ w3.cell? ⟨w2.heap.size, 1, none⟩ = some vo ∧ w3.cell? ⟨w2.heap.size, 2, none⟩ = some vl ∧ w3.cell? ⟨w2.heap.size, 3, none⟩ = some vf ∧ w3.cell? ⟨w2.heap.size, 4, none⟩ = some v1 := ⟨cell_of_row _ _ 0 _ _ _ hw3, cell_of_row _ _ 1 _ _ _ hw3, cell_of_row _ _ 2 _ _ _ hw3, cell_of_row _ _ 3 _ _ _ hw3, cell_of_row _ _ 4 _ _ _ hw3⟩; clear hw3 hg3)
  have hB3 : Below w2.heap.size w2 w3 := ((Below.refl w2.heap.size w2).alloc (Nat.le_refl _) _).grown HG3.out (by simp) (fun j e => by simp only [Option.some.injEq] at e; omega)
  have hB4 := below_after HB2.out hB3
  have hlt : w2.heap.size < w3.heap.size := (Array.getElem?_eq_some_iff.1 HL3.out).1
  have HBW := hidden (fun W (hb : Below w3.heap.size w3 W) => below_then hB4 hB4.size hb)
  have HY := hidden (fun W (hb : Below w3.heap.size w3 W) => (show W.cell? ⟨w2.heap.size, 0, none⟩ = some vs ∧ W.cell? ⟨w2.heap.size, 1, none⟩ = some vo ∧ W.cell? ⟨w2.heap.size, 2, none⟩ = some vl ∧ W.cell? ⟨w2.heap.size, 3, none⟩ = some vf ∧ W.cell? ⟨w2.heap.size, 4, none⟩ = some v1 from by
    have hw3 := (hb.block _ hlt).trans HL3.out
    exact ⟨cell_of_row _ _ 0 _ _ _ hw3, cell_of_row _ _ 1 _ _ _ hw3, cell_of_row _ _ 2 _ _ _ hw3, cell_of_row _ _ 3 _ _ _ hw3, cell_of_row _ _ 4 _ _ _ hw3⟩))
  have hr3 := HR2.out.later hB3
  have HBU := hidden (fun (M : Int) W (hb : Below w3.heap.size w3 W) => Build_calls M (hr3.later hb) HWD.out (by have := HFS.out.1; omega) (HPW.out W (HBW.out W hb)))
  have HKN := hidden (fun W (hb : Below w3.heap.size w3 W) => knows14_calls W (HPW.out W (HBW.out W hb)))
  obtain ⟨n0, hn0⟩ : ∃ n0, n0 = w2.heap.size := ⟨_, rfl⟩
  rw [← hn0] at HY ⊢
  clear hB3 hB4 HO HL3 HG3 hn0 y0 y1 y2 y3 y4 hlt hr3 HR2 HB2 HFUSE HF HV HFT
  refine (HBU.out 60 _ (Below.refl _ _)).mono ?_
  rintro e w4 ⟨vn, vb, rfl, hrd, hb4⟩
  have HK4 := hidden hb4
  have HRD4 := hidden hrd
  obtain ⟨an, cn, rfl⟩ := hrd.next.form
  obtain ⟨al, cl, rfl⟩ := hrd.label.form
  clear hrd hb4
  rcases HE60.out with he | he
  · have hex := build_exact he
    rw [he]
    obtain ⟨n, hn⟩ : ∃ x, x = cntB N 60 := ⟨_, rfl⟩
    obtain ⟨D, hD⟩ : ∃ x, x = machB N 60 := ⟨_, rfl⟩
    rw [← hn, ← hD] at hex ⊢
    rw [← hD] at HRD4
    have HEX := hidden hex
    have HN6 := hidden (show n ≤ 60 by
      have h3 := (errB_ok he).2.2.2
      rw [hn]
      unfold cntB
      rw [if_pos he]
      exact h3)
    clear he hex hn hD HE60
    obtain ⟨k, hk⟩ : ∃ k : Nat, n = (k : Int) := ⟨n.toNat, by have := HEX.out.2.2.2.2.1; omega⟩
    subst hk
    have hln : D.next.length = k := by have := HEX.out.2.2.2.2.2; omega
    rw [hln] at HRD4 ⊢
    clear hln
    dsimp only
    go_wp2_with (first
      | (refine store_dfa rfl (x := .tmp 6) (y := .tmp 27) rfl rfl rfl (DfaAt.new w4 zG 0 (.slice none 0 0) (.slice none 0 0)) rfl rfl ?_; intro w5 hA5 hg5 hs5; have HA5 := hidden hA5; have hb5 := ((Below.refl w4.heap.size w4).alloc (Nat.le_refl _) (.cells (dfaC zG 0 (.slice none 0 0) (.slice none 0 0)) 32)).grown hg5 (by simp) (by intro k hk; simp only [Option.some.injEq] at hk; omega); have HRD5 := hidden (HRD4.out.below hb5 hb5.size); have HK5 := hidden (below_after HK4.out hb5); clear hA5 hg5 hs5 hb5; obtain ⟨y0, y1, y2, y3, y4⟩ := HY.out _ HK5.out)
      | fail)
    clear y0 y1 y2 y3 y4
    obtain ⟨B6, hB6⟩ : ∃ B, B = w4.heap.size := ⟨_, rfl⟩
    rw [← hB6] at HA5 ⊢
    clear hB6
    refine (HBU.out (k : Int) _ HK5.out).mono ?_
    rintro e w6 ⟨vn6, vb6, rfl, hrd, hb6⟩
    rw [HEX.out.1, HEX.out.2.1]
    rw [HEX.out.2.2.1] at hrd ⊢
    have HK6 := hidden (below_after HK5.out hb6)
    have HA6 := hidden (HA5.out.below hb6)
    have HRD56 := hidden (HRD5.out.below hb6 hb6.size)
    have HRD6 := hidden hrd
    obtain ⟨an6, cn6, rfl⟩ := hrd.next.form
    obtain ⟨al6, cl6, rfl⟩ := hrd.label.form
    clear hrd hb6 HRD4 HRD5 HA5 HK4
    dsimp only
    go_wp2_with (first
      | (refine store_dfa rfl (x := .tmp 12) (y := .tmp 55) rfl rfl rfl (DfaAt.new w6 zG 0 (.slice none 0 0) (.slice none 0 0)) rfl rfl ?_; intro w7 hA7 hg7 hs7; have HA7 := hidden hA7; have hb7 := ((Below.refl w6.heap.size w6).alloc (Nat.le_refl _) (.cells (dfaC zG 0 (.slice none 0 0) (.slice none 0 0)) 32)).grown hg7 (by simp) (by intro k hk; simp only [Option.some.injEq] at hk; omega); have HRD7 := hidden (HRD6.out.below hb7 hb7.size); have HRD57 := hidden (HRD56.out.below hb7 hb7.size); have HA67 := hidden (HA6.out.below hb7); have HK7 := hidden (below_after HK6.out hb7); clear hA7 hg7 hs7 hb7; obtain ⟨y0, y1, y2, y3, y4⟩ := HY.out _ HK7.out)
      | fail)
    clear y0 y1 y2 y3 y4
    obtain ⟨B12, hB12⟩ : ∃ B, B = w6.heap.size := ⟨_, rfl⟩
    rw [← hB12] at HA7 ⊢
    clear hB12
    have hk1 : 1 ≤ k := by have := HEX.out.2.2.2.2.1; omega
    have hk6 : k ≤ 60 := by have := HN6.out; omega
    have hwr : wrap64 ((k : Int) - 1) = (k : Int) - 1 := by unfold wrap64; omega
    rw [hwr]
    clear hwr
    refine (HBU.out ((k : Int) - 1) _ HK7.out).mono ?_
    rintro e w8 ⟨vn8, vb8, rfl, hrd, hb8⟩
    rw [HEX.out.2.2.2.1]
    have HK8 := hidden (below_after HK7.out hb8)
    have HA68 := hidden (HA67.out.below hb8)
    have HA78 := hidden (HA7.out.below hb8)
    have HRD58 := hidden (HRD57.out.below hb8 hb8.size)
    have HRD78 := hidden (HRD7.out.below hb8 hb8.size)
    obtain ⟨an8, cn8, rfl⟩ := hrd.next.form
    obtain ⟨al8, cl8, rfl⟩ := hrd.label.form
    obtain ⟨D8, hD8⟩ : ∃ x, x = machB N ((k : Int) - 1) := ⟨_, rfl⟩
    obtain ⟨c8, hc8⟩ : ∃ x, x = cntB N ((k : Int) - 1) := ⟨_, rfl⟩
    rw [← hD8, ← hc8]
    clear hrd hb8 HRD6 HRD56 HRD7 HRD57 HA6 HA67 HA7 hD8 hc8 HEX HN6 HK5 HK6 HK7
    have e1 : ((k : Int) != (k : Int)) = false := by simp
    dsimp only
    have HST := hidden (fun (W : World) => (DfaAt.new W zG 0 (.slice none 0 0) (.slice none 0 0)))
    by_cases p1 : 1 < k
    · have d1 : decide (1 < k) = true := decide_eq_true p1
      have d2 : decide ((1 : Int) < (k : Int)) = true := decide_eq_true (by omega)
      rw [if_pos (show (1 : Int) < (k : Int) by omega)]
      go_wp2_with (first
        | (refine store_dfa rfl (x := .tmp 15) (y := .tmp 63) rfl rfl rfl (DfaAt.new w8 zG 0 (.slice none 0 0) (.slice none 0 0)) rfl rfl ?_; intro w9 hA9 hg9 hs9; have hb9 := ((Below.refl w8.heap.size w8).alloc (Nat.le_refl _) (.cells (dfaC zG 0 (.slice none 0 0) (.slice none 0 0)) 32)).grown hg9 (by simp) (by intro k hk; simp only [Option.some.injEq] at hk; omega); have HK9 := hidden (below_after HK8.out hb9); have HA69 := hidden (HA68.out.below hb9); have HA79 := hidden (HA78.out.below hb9); have HRD59 := hidden (HRD58.out.below hb9 hb9.size); have HRD79 := hidden (HRD78.out.below hb9 hb9.size); have x6 := HA69.out.next; clear hA9 hg9 hs9 hb9)
        | fail)
      refine wpl_any (x := .tmp 6) rfl rfl (run_load_dfa HA69.out) ?_
      simp only [Act.put, List.setIfInBounds_toArray, List.set_cons_zero, List.set_cons_succ]
      (try go_wp2_with fail)
      refine wpl_any (x := .tmp 12) rfl rfl (run_load_dfa HA79.out) ?_
      simp only [Act.put, List.setIfInBounds_toArray, List.set_cons_zero, List.set_cons_succ]
      clear x6
      (try go_wp2_with fail)
      refine (rsame14_calls HRD59.out HRD79.out).mono ?_
      rintro e w10 ⟨rfl, hb10⟩
      have HK10 := hidden (below_after HK9.out hb10)
      clear hb10
      go_wp2_with fail
      refine (HKN.out _ HK10.out).mono ?_
      rintro e w11 ⟨rfl, hb11⟩
      go_wp2
      go_ret
      exact ⟨rfl, HBW.out _ (below_after HK10.out hb11)⟩
    · obtain rfl : k = 1 := by omega
      rw [if_neg (show ¬ (1 : Int) < ((1 : Nat) : Int) by omega)]
      go_wp2_with (first
        | (refine store_dfa rfl (x := .tmp 15) (y := .tmp 63) rfl rfl rfl (DfaAt.new w8 zG 0 (.slice none 0 0) (.slice none 0 0)) rfl rfl ?_; intro w9 hA9 hg9 hs9; have hb9 := ((Below.refl w8.heap.size w8).alloc (Nat.le_refl _) (.cells (dfaC zG 0 (.slice none 0 0) (.slice none 0 0)) 32)).grown hg9 (by simp) (by intro k hk; simp only [Option.some.injEq] at hk; omega); have HK9 := hidden (below_after HK8.out hb9); have HA69 := hidden (HA68.out.below hb9); have HA79 := hidden (HA78.out.below hb9); have HRD59 := hidden (HRD58.out.below hb9 hb9.size); have HRD79 := hidden (HRD78.out.below hb9 hb9.size); have x6 := HA69.out.next; clear hA9 hg9 hs9 hb9)
        | fail)
      refine wpl_any (x := .tmp 6) rfl rfl (run_load_dfa HA69.out) ?_
      simp only [Act.put, List.setIfInBounds_toArray, List.set_cons_zero, List.set_cons_succ]
      (try go_wp2_with fail)
      refine wpl_any (x := .tmp 12) rfl rfl (run_load_dfa HA79.out) ?_
      simp only [Act.put, List.setIfInBounds_toArray, List.set_cons_zero, List.set_cons_succ]
      clear x6
      (try go_wp2_with fail)
      refine (rsame14_calls HRD59.out HRD79.out).mono ?_
      rintro e w10 ⟨rfl, hb10⟩
      have HK10 := hidden (below_after HK9.out hb10)
      clear hb10
      go_wp2_with fail
      refine (HKN.out _ HK10.out).mono ?_
      rintro e w11 ⟨rfl, hb11⟩
      go_wp2
      go_ret
      exact ⟨rfl, HBW.out _ (below_after HK10.out hb11)⟩
  · have hle := fun (M : Int) (h1 : 1 ≤ M) (h2 : M ≤ 60) => build_less he h1 h2
    rw [he]
    obtain ⟨n, hn⟩ : ∃ x, x = cntB N 60 := ⟨_, rfl⟩
    obtain ⟨D, hD⟩ : ∃ x, x = machB N 60 := ⟨_, rfl⟩
    rw [← hn, ← hD]
    rw [← hD] at HRD4
    have HLE := hidden hle
    clear he hle hn hD HE60
    obtain ⟨c, rfl⟩ := Int.eq_ofNat_of_zero_le HBB.out.1
    have hc : c ≤ 255 := by have := HBB.out.2; omega
    dsimp only
    go_wp2_with (first
      | (refine store_dfa rfl (x := .tmp 6) (y := .tmp 27) rfl rfl rfl (DfaAt.new w4 zG 0 (.slice none 0 0) (.slice none 0 0)) rfl rfl ?_; intro w5 hA5 hg5 hs5; have hb5 := ((Below.refl w4.heap.size w4).alloc (Nat.le_refl _) (.cells (dfaC zG 0 (.slice none 0 0) (.slice none 0 0)) 32)).grown hg5 (by simp) (by intro k hk; simp only [Option.some.injEq] at hk; omega); have HK5 := hidden (below_after HK4.out hb5); clear hA5 hg5 hs5 hb5; obtain ⟨y0, y1, y2, y3, y4⟩ := HY.out _ HK5.out)
      | fail)
    clear y0 y1 y2 y3 y4
    refine (HBU.out (60 - (c : Int) % 60) _ HK5.out).mono ?_
    rintro e w6 ⟨vn6, vb6, rfl, hrd, hb6⟩
    rw [HLE.out _ (by omega) (by omega)]
    have HK6 := hidden (below_after HK5.out hb6)
    obtain ⟨an6, cn6, rfl⟩ := hrd.next.form
    obtain ⟨al6, cl6, rfl⟩ := hrd.label.form
    obtain ⟨D6, hD6⟩ : ∃ x, x = machB N (60 - (c : Int) % 60) := ⟨_, rfl⟩
    obtain ⟨c6, hc6⟩ : ∃ x, x = cntB N (60 - (c : Int) % 60) := ⟨_, rfl⟩
    rw [← hD6, ← hc6]
    clear hrd hb6 hD6 hc6 HRD4
    dsimp only
    go_wp2_with (first
      | (refine store_dfa rfl (x := .tmp 9) (y := .tmp 39) rfl rfl rfl (DfaAt.new w6 zG 0 (.slice none 0 0) (.slice none 0 0)) rfl rfl ?_; intro w7 hA7 hg7 hs7; have hb7 := ((Below.refl w6.heap.size w6).alloc (Nat.le_refl _) (.cells (dfaC zG 0 (.slice none 0 0) (.slice none 0 0)) 32)).grown hg7 (by simp) (by intro k hk; simp only [Option.some.injEq] at hk; omega); have HK7 := hidden (below_after HK6.out hb7); clear hA7 hg7 hs7 hb7)
      | fail)
    refine (HKN.out _ HK7.out).mono ?_
    rintro e w11 ⟨rfl, hb11⟩
    go_wp2
    go_ret
    exact ⟨rfl, HBW.out _ (below_after HK7.out hb11)⟩
namespace lawDfaBound
open Go.ChangeShapes Go.WideShapes Go.ChangeAt Go.RowKit Go.Deep
open Go.ChangeMaps (open_string shut_string)
set_option maxRecDepth 100000 in
theorem lifted (os : Os) (started : os.Started) (H : Type) (enc : TypeId × Value → H) :
    ReturnsInHanded {} Tryz.checked os 6 .any (fun w args => (Rows.dfaBoundSpec.pre enc Tryz.prog Tryz.f6 Rows.dfaBoundRow.domain false w args ∧ laidMetH Tryz.prog [("math/bits.deBruijn32tab", Rows.laid_math_bits_deBruijn32tab), ("math/bits.deBruijn64tab", Rows.laid_math_bits_deBruijn64tab), ("internal/strconv.uint64pow10", Rows.laid_internal_strconv_uint64pow10)] w) ∧ sizedMet enc Tryz.prog Tryz.f6 (OpenSpec.ofChange Rows.dfaBoundSpec) false w args)
      (Rows.dfaBoundSpec.post enc Tryz.prog Tryz.f6 false true false false) := by
  refine returnsInHanded_of_change_and (C := Tryz.checked) (X := fun w _ => laidMetH Tryz.prog [("math/bits.deBruijn32tab", Rows.laid_math_bits_deBruijn32tab), ("math/bits.deBruijn64tab", Rows.laid_math_bits_deBruijn64tab), ("internal/strconv.uint64pow10", Rows.laid_internal_strconv_uint64pow10)] w) (fun _ _ _ hh h => h.of_heap hh) own started (by kernel_rfl) Tryz.func6
    (ChangeSpec.witness_shaped (enc := enc) (C := Tryz.checked) (os := os) (X := fun w _ => laidMetH Tryz.prog [("math/bits.deBruijn32tab", Rows.laid_math_bits_deBruijn32tab), ("math/bits.deBruijn64tab", Rows.laid_math_bits_deBruijn64tab), ("internal/strconv.uint64pow10", Rows.laid_internal_strconv_uint64pow10)] w) false (World.laidAll Tryz.prog os [("math/bits.deBruijn32tab", Rows.laid_math_bits_deBruijn32tab), ("math/bits.deBruijn64tab", Rows.laid_math_bits_deBruijn64tab), ("internal/strconv.uint64pow10", Rows.laid_internal_strconv_uint64pow10)]) #[.slice none 0 0, .int .u8 0] 8 (World.laidAll_os _ _ _)
      (World.shaped_of_ZipB (by kernel_rfl) (by kernel_rfl)) (by kernel_rfl) (by kernel_rfl) (by kernel_rfl)
      (by rw [MakeChecks.laidMetH_plain _ _ _ (by kernel_rfl)]; exact laidMet_laidAll _ (by kernel_rfl) (by kernel_rfl))) ?_
  intro W base args ds gs before hval0 hW hcnd _ hL _
  have hval : ∀ (j : Nat) t v, Tryz.f6.params[j]? = some t → args[j]? = some v → Value.okWide Tryz.prog W .any base t v := hval0
  have hW' : DataW.Whole enc Tryz.prog Tryz.f6.params.toList Rows.dfaBoundSpec.vars false W args.toList ds gs before := hW
  obtain ⟨p, q, hA0, hV, rfl, hfz, hnd⟩ := hW
  have hA : DataW.TrodAll enc Tryz.prog W 0 (fun _ => true) true Tryz.f6.params.toList args.toList ds p := hA0
  have ht : Pow W := of_laid (by kernel_rfl) (by kernel_rfl) (by kernel_rfl) hL
  rw [Tryz.params6] at hA hval
  obtain ⟨v0, vs0, d0, ds0, p0, q0, hargs, hd0, hp0, h0, r0⟩ := trodAll_cons hA
  obtain ⟨v1, vs1, d1, ds1, p1, q1, rfl, hd1, hp1, h1, r1⟩ := trodAll_cons r0
  obtain ⟨rfl, _, _⟩ := trodAll_nil r1
  obtain rfl : args = #[v0, v1] := by cases args; simp_all
  obtain ⟨a0, len0, cap0, rfl⟩ := okWide_slice Tryz.underlying43 (hval 0 43 v0 rfl rfl)
  obtain ⟨z0, w0⟩ := open_toks h0
  obtain ⟨a1, rfl, _, _, w1⟩ := open_int Tryz.underlying5 (hval 1 5 v1 rfl rfl) h1
  refine (walkDfBound a0 len0 cap0 z0 a1 W w0 (wf_u8 w1) ht).mono fun e W' ⟨he, hb⟩ => ⟨_, he, ends_true hW' rfl (by kernel_rfl) ?_ (by kernel_rfl) hb⟩
  intro xs hxs
  match xs, hxs with
  | [_, _], _ => rfl

theorem proved : Rows.DfaBoundSaid :=
  OpenClaim.holds_of_wide 6 Tryz.f6 rfl rfl rfl rfl rfl rfl rfl ⟨rfl, rfl, rfl, rfl, rfl⟩ rfl rfl rfl rfl rfl (by kernel_rfl) Tryz.func6 (by kernel_rfl)
    (of_decide_eq_true (by kernel_rfl)) (by unfold Func.isWrapper; first | (rw [if_pos (by decide +kernel)]; kernel_rfl) | (rw [if_neg (by decide +kernel)]; exact ⟨rfl, rfl⟩))
    (fun os started H enc _ => lifted os started H enc)

/-- the card: the row, and what it lists tied to the program's text -/
theorem card : Rows.DfaBoundCardSaid :=
  Claim7.holds_tied_plain_at .later [] [.data, .data, .data] true (true, "fb61e93243e8b48a019c411e8d844153cdeb08179d792e0bf509e74ff8910c03") false
    proved (fun _ h => by cases h) (by kernel_rfl) (fun _ h => by cases h) dfaBound_row_tie rfl ⟨rfl, rfl⟩ (by kernel_rfl) rfl
    (fun f fn hf hfn => by
      obtain rfl : f = 6 := Option.some.inj ((show Tryz.prog.funcNamed "facsimile/facsimilelaw14.DfaBound" = some 6 by kernel_rfl).symm.trans hf) |>.symm
      obtain rfl : fn = Tryz.f6 := (Option.some.inj (Tryz.func6.symm.trans hfn)).symm
      exact ⟨by kernel_rfl, fun j t ht => by
        rw [Tryz.params6] at ht
        have hm : t ∈ [43, 5] := by simpa using Array.mem_of_getElem? ht
        have hall : ([43, 5].all fun u => !Tryz.prog.wantsStandIn u) = true := by kernel_rfl
        exact (show Tryz.prog.wantsStandIn t = false by simpa using List.all_eq_true.1 hall t hm)⟩)
    (by kernel_rfl)

end lawDfaBound
end Go.Proofs.YtmpjjnjggihojaaGreatDoor
