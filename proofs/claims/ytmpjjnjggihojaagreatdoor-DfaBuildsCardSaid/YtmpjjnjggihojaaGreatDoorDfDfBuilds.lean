/- 'DfaBuilds' answers true for every net and every bound: Build makes the machine that the reference makes, as many states and the same error, it is right, and the chapter's machine answers as it should. Conditions: the three listed tables (of math/bits, and of strconv's powers of ten) hold what their initialisers lay (listed and tied). -/
import Derived.Test.YtmpjjnjggihojaaGreatDoorDf35
import Derived.Test.YtmpjjnjggihojaaGreatDoorDf36
import Derived.Test.YtmpjjnjggihojaaGreatDoorDf30
import Derived.Test.YtmpjjnjggihojaaGreatDoorDf37
namespace Go.Proofs.YtmpjjnjggihojaaGreatDoor
open Go.RowKit Go.Lib Go.Joins Go.Maps

set_option maxHeartbeats 16000000 in
set_option maxRecDepth 100000 in
theorem walkDfBuilds (vs vo vl vf v1 : Value) (N : NetM) (most : Int) (w : World) (h : RdNet w.heap.size w vs vo vl vf v1 N ∧ (∀ s ∈ N.sets, s.wide) ∧ NetSz N) (_ : -9223372036854775808 ≤ most ∧ most ≤ 9223372036854775807) (ht : Pow w) :
    Calls Tryz.prog 3 #[.agg #[vs, vo, vl, vf, v1], .int .i64 most] w fun e w' => e = .returned (.bool true) ∧ Below w.heap.size w w' := by
  obtain ⟨hr, hwd, hsz⟩ := h
  obtain ⟨sa, cs, rfl⟩ := hr.sets.form
  have hba := (Below.refl w.heap.size w).alloc (Nat.le_refl _) (.cells #[.slice sa N.sets.length cs, vo, vl, vf, v1] 27)
  have hbx := net_box w (.slice sa N.sets.length cs) vo vl vf v1 27
  obtain ⟨w0, hw0⟩ : ∃ w0, w0 = w.alloc (.cells #[.slice sa N.sets.length cs, vo, vl, vf, v1] 27) := ⟨_, rfl⟩
  have hs0 : w0.heap.size = w.heap.size + 1 := by rw [hw0]; simp
  rw [← hw0] at hba hbx
  have HBA := hidden hba
  have HBX := hidden hbx
  have HW0 := hidden hw0
  have HS0 := hidden hs0
  have HPW := hidden (fun W (hb : Below w.heap.size w W) => (show Pow W from tabBelow_of_tabIs ht W hb))
  have HSM := hidden (smallD_calls (hr.below hba hba.size) hsz)
  have HYES := hidden (fun (h : smallD N = true) => (small_yes h))
  have HBU := hidden (fun (hn : N.sets.length ≤ 900) (M : Int) W (hb : Below w.heap.size w W) => Build_calls M (hr.below hb hb.size) hwd hn (tabBelow_of_tabIs ht W hb))
  have HRB := hidden (fun (hn : N.sets.length ≤ 900) (hf : ∀ i, (N.fol.getD i []).length ≤ 1000) (M : Int) W (hb : Below w.heap.size w W) => rBuild_calls M (hr.below hb hb.size) hwd hn hf)
  have hal := run_zero_dfa
  obtain ⟨m0, m1, m2, m3, m4⟩ := HBX.out _ (Below.refl _ _)
  rw [hw0] at m0 m1 m2 m3 m4
  clear hr hwd hsz ht hba hbx hw0 hs0
  go_enter Tryz.func3, Tryz.ntmps3
  go_wp2_with fail
  rw [← HW0.out]
  clear m0 m1 m2 m3 m4
  refine HSM.out.mono ?_
  rintro e w1 ⟨rfl, hb1⟩
  have HBW1 := hidden (below_then HBA.out HBA.out.size hb1)
  have HB1 := hidden (show Below (w.heap.size + 1) w0 w1 from HS0.out ▸ hb1)
  clear hb1
  cases hsm : smallD N with
  | false =>
    clear hsm
    go_wp2_with fail
    refine (knows14_calls _ (HPW.out _ HBW1.out)).mono ?_
    rintro e w2 ⟨rfl, hb2⟩
    go_wp2
    go_ret
    exact ⟨rfl, below_then HBW1.out HBW1.out.size hb2⟩
  | true =>
    have HY := hidden (HYES.out hsm)
    clear hsm
    have hn9 : N.sets.length ≤ 900 := by have := HY.out.sum.1; omega
    have HBU2 := hidden (HBU.out hn9)
    have HRB2 := hidden (HRB.out hn9 fun i => Nat.le_trans (HY.out.each i) (by decide))
    have HRI := hidden (fun (M : Int) => machB_right (N := N) (most := M))
    clear hn9 HBU HRB HSM HYES HY
    obtain ⟨m0, m1, m2, m3, m4⟩ := HBX.out _ HB1.out
    by_cases p1 : 60 < most
    · by_cases p2 : most ≤ 4096
      · have q1 : decide (60 < most) = true := decide_eq_true p1
        have q2 : decide (most ≤ 4096) = true := decide_eq_true p2
        clear p1 p2
        go_wp2_with fail
        clear q1 q2
        clear m0 m1 m2 m3 m4
        refine (HBU2.out _ _ HBW1.out).mono ?_
        rintro e w2 ⟨vn, vb, rfl, hrd, hb2⟩
        have HBW2 := hidden (below_then HBW1.out HBW1.out.size hb2)
        have HB2 := hidden (below_then HB1.out (by have := HB1.out.size; have := HS0.out; omega) hb2)
        have HRD2 := hidden hrd
        obtain ⟨an, cn, rfl⟩ := hrd.next.form
        obtain ⟨al, cl, rfl⟩ := hrd.label.form
        clear hrd hb2
        dsimp only
        go_wp2_with (first
          | (refine store_dfa rfl (x := .tmp 5) (y := .tmp 25) rfl rfl rfl (DfaAt.new w2 zG 0 (.slice none 0 0) (.slice none 0 0)) rfl rfl ?_; intro w3 hA3 hg3 hs3; have HA3 := hidden hA3; have hb3 := ((Below.refl w2.heap.size w2).alloc (Nat.le_refl _) (.cells (dfaC zG 0 (.slice none 0 0) (.slice none 0 0)) 32)).grown hg3 (by simp) (by intro k hk; simp only [Option.some.injEq] at hk; omega); have HRD3 := hidden (HRD2.out.below hb3 hb3.size); have HBW3 := hidden (below_then HBW2.out HBW2.out.size hb3); have HB3 := hidden (below_then HB2.out (by have := HB2.out.size; have := HS0.out; omega) hb3); clear hA3 hg3 hs3 hb3; obtain ⟨m0, m1, m2, m3, m4⟩ := HBX.out _ HB3.out)
          | fail)
        clear m0 m1 m2 m3 m4
        refine (HRB2.out _ _ HBW3.out).mono ?_
        rintro e w4 ⟨vn4, vb4, rfl, hrd, hb4⟩
        have HBW4 := hidden (below_then HBW3.out HBW3.out.size hb4)
        have HA4 := hidden (HA3.out.below hb4)
        have HRD34 := hidden (HRD3.out.below hb4 hb4.size)
        have HRD4 := hidden hrd
        obtain ⟨an4, cn4, rfl⟩ := hrd.next.form
        obtain ⟨al4, cl4, rfl⟩ := hrd.label.form
        clear hrd hb4 HRD2 HRD3 HA3
        dsimp only
        go_wp2_with (first
          | (refine store_dfa rfl (x := .tmp 8) (y := .tmp 32) rfl rfl rfl (DfaAt.new w4 zG 0 (.slice none 0 0) (.slice none 0 0)) rfl rfl ?_; intro w5 hA5 hg5 hs5; have HA5 := hidden hA5; have hb5 := ((Below.refl w4.heap.size w4).alloc (Nat.le_refl _) (.cells (dfaC zG 0 (.slice none 0 0) (.slice none 0 0)) 32)).grown hg5 (by simp) (by intro k hk; simp only [Option.some.injEq] at hk; omega); have HRD5 := hidden (HRD4.out.below hb5 hb5.size); have HRD35 := hidden (HRD34.out.below hb5 hb5.size); have HA35 := hidden (HA4.out.below hb5); have HBW5 := hidden (below_then HBW4.out HBW4.out.size hb5); clear hA5 hg5 hs5 hb5)
          | (refine load_dfa rfl (x := .tmp 5) rfl rfl HA35.out ?_)
          | (refine load_dfa rfl (x := .tmp 8) rfl rfl HA5.out ?_)
          | fail)
        refine (rsame14_calls HRD35.out HRD5.out).mono ?_
        rintro e w6 ⟨rfl, hb6⟩
        have HA6 := hidden (HA35.out.below hb6)
        have HRD6 := hidden (HRD35.out.below hb6 hb6.size)
        have HBW6 := hidden (below_then HBW5.out HBW5.out.size hb6)
        clear hb6 HRD5 HRD35 HA5 HA35 HRD4 HRD34
        have HRIM := hidden (HRI.out 60)
        obtain ⟨cn, hcn⟩ : ∃ x, x = cntB N 60 := ⟨_, rfl⟩
        obtain ⟨er, her⟩ : ∃ x, x = errB N 60 := ⟨_, rfl⟩
        obtain ⟨D, hD⟩ : ∃ x, x = machB N 60 := ⟨_, rfl⟩
        rw [← her, ← hD] at HRIM
        rw [← hD] at HRD6 HA6
        rw [← hcn, ← her, ← hD]
        clear hcn her hD
        have e1 : (cn == cn) = true := by simp
        have e2 : (er == er) = true := by simp
        by_cases he : er = 0
        · subst he
          have HRT := hidden (HRIM.out rfl)
          go_wp2_with fail
          refine wpl_any (x := .tmp 5) rfl rfl (run_load_dfa HA6.out) ?_
          simp only [Act.put, List.setIfInBounds_toArray, List.set_cons_zero, List.set_cons_succ]
          go_wp2_with fail
          refine (right14_calls HRD6.out).mono ?_
          rintro e w7 ⟨rfl, hb7⟩
          rw [HRT.out]
          have HBW7 := hidden (below_then HBW6.out HBW6.out.size hb7)
          clear hb7
          go_wp2_with fail
          refine (knows14_calls _ (HPW.out _ HBW7.out)).mono ?_
          rintro e w8 ⟨rfl, hb8⟩
          go_wp2
          go_ret
          exact ⟨rfl, below_then HBW7.out HBW7.out.size hb8⟩
        · have e3 : (er != 0) = true := by simp [he]
          have e4 : (er == 0) = false := by simp [he]
          clear he
          go_wp2_with fail
          refine (knows14_calls _ (HPW.out _ HBW6.out)).mono ?_
          rintro e w8 ⟨rfl, hb8⟩
          go_wp2
          go_ret
          exact ⟨rfl, below_then HBW6.out HBW6.out.size hb8⟩
      · have q1 : decide (60 < most) = true := decide_eq_true p1
        have q2 : decide (most ≤ 4096) = false := decide_eq_false p2
        clear p1 p2
        go_wp2_with fail
        clear q1 q2
        clear m0 m1 m2 m3 m4
        refine (HBU2.out _ _ HBW1.out).mono ?_
        rintro e w2 ⟨vn, vb, rfl, hrd, hb2⟩
        have HBW2 := hidden (below_then HBW1.out HBW1.out.size hb2)
        have HB2 := hidden (below_then HB1.out (by have := HB1.out.size; have := HS0.out; omega) hb2)
        have HRD2 := hidden hrd
        obtain ⟨an, cn, rfl⟩ := hrd.next.form
        obtain ⟨al, cl, rfl⟩ := hrd.label.form
        clear hrd hb2
        dsimp only
        go_wp2_with (first
          | (refine store_dfa rfl (x := .tmp 5) (y := .tmp 25) rfl rfl rfl (DfaAt.new w2 zG 0 (.slice none 0 0) (.slice none 0 0)) rfl rfl ?_; intro w3 hA3 hg3 hs3; have HA3 := hidden hA3; have hb3 := ((Below.refl w2.heap.size w2).alloc (Nat.le_refl _) (.cells (dfaC zG 0 (.slice none 0 0) (.slice none 0 0)) 32)).grown hg3 (by simp) (by intro k hk; simp only [Option.some.injEq] at hk; omega); have HRD3 := hidden (HRD2.out.below hb3 hb3.size); have HBW3 := hidden (below_then HBW2.out HBW2.out.size hb3); have HB3 := hidden (below_then HB2.out (by have := HB2.out.size; have := HS0.out; omega) hb3); clear hA3 hg3 hs3 hb3; obtain ⟨m0, m1, m2, m3, m4⟩ := HBX.out _ HB3.out)
          | fail)
        clear m0 m1 m2 m3 m4
        refine (HRB2.out _ _ HBW3.out).mono ?_
        rintro e w4 ⟨vn4, vb4, rfl, hrd, hb4⟩
        have HBW4 := hidden (below_then HBW3.out HBW3.out.size hb4)
        have HA4 := hidden (HA3.out.below hb4)
        have HRD34 := hidden (HRD3.out.below hb4 hb4.size)
        have HRD4 := hidden hrd
        obtain ⟨an4, cn4, rfl⟩ := hrd.next.form
        obtain ⟨al4, cl4, rfl⟩ := hrd.label.form
        clear hrd hb4 HRD2 HRD3 HA3
        dsimp only
        go_wp2_with (first
          | (refine store_dfa rfl (x := .tmp 8) (y := .tmp 32) rfl rfl rfl (DfaAt.new w4 zG 0 (.slice none 0 0) (.slice none 0 0)) rfl rfl ?_; intro w5 hA5 hg5 hs5; have HA5 := hidden hA5; have hb5 := ((Below.refl w4.heap.size w4).alloc (Nat.le_refl _) (.cells (dfaC zG 0 (.slice none 0 0) (.slice none 0 0)) 32)).grown hg5 (by simp) (by intro k hk; simp only [Option.some.injEq] at hk; omega); have HRD5 := hidden (HRD4.out.below hb5 hb5.size); have HRD35 := hidden (HRD34.out.below hb5 hb5.size); have HA35 := hidden (HA4.out.below hb5); have HBW5 := hidden (below_then HBW4.out HBW4.out.size hb5); clear hA5 hg5 hs5 hb5)
          | (refine load_dfa rfl (x := .tmp 5) rfl rfl HA35.out ?_)
          | (refine load_dfa rfl (x := .tmp 8) rfl rfl HA5.out ?_)
          | fail)
        refine (rsame14_calls HRD35.out HRD5.out).mono ?_
        rintro e w6 ⟨rfl, hb6⟩
        have HA6 := hidden (HA35.out.below hb6)
        have HRD6 := hidden (HRD35.out.below hb6 hb6.size)
        have HBW6 := hidden (below_then HBW5.out HBW5.out.size hb6)
        clear hb6 HRD5 HRD35 HA5 HA35 HRD4 HRD34
        have HRIM := hidden (HRI.out most)
        obtain ⟨cn, hcn⟩ : ∃ x, x = cntB N most := ⟨_, rfl⟩
        obtain ⟨er, her⟩ : ∃ x, x = errB N most := ⟨_, rfl⟩
        obtain ⟨D, hD⟩ : ∃ x, x = machB N most := ⟨_, rfl⟩
        rw [← her, ← hD] at HRIM
        rw [← hD] at HRD6 HA6
        rw [← hcn, ← her, ← hD]
        clear hcn her hD
        have e1 : (cn == cn) = true := by simp
        have e2 : (er == er) = true := by simp
        by_cases he : er = 0
        · subst he
          have HRT := hidden (HRIM.out rfl)
          go_wp2_with fail
          refine wpl_any (x := .tmp 5) rfl rfl (run_load_dfa HA6.out) ?_
          simp only [Act.put, List.setIfInBounds_toArray, List.set_cons_zero, List.set_cons_succ]
          go_wp2_with fail
          refine (right14_calls HRD6.out).mono ?_
          rintro e w7 ⟨rfl, hb7⟩
          rw [HRT.out]
          have HBW7 := hidden (below_then HBW6.out HBW6.out.size hb7)
          clear hb7
          go_wp2_with fail
          refine (knows14_calls _ (HPW.out _ HBW7.out)).mono ?_
          rintro e w8 ⟨rfl, hb8⟩
          go_wp2
          go_ret
          exact ⟨rfl, below_then HBW7.out HBW7.out.size hb8⟩
        · have e3 : (er != 0) = true := by simp [he]
          have e4 : (er == 0) = false := by simp [he]
          clear he
          go_wp2_with fail
          refine (knows14_calls _ (HPW.out _ HBW6.out)).mono ?_
          rintro e w8 ⟨rfl, hb8⟩
          go_wp2
          go_ret
          exact ⟨rfl, below_then HBW6.out HBW6.out.size hb8⟩
    · have q1 : decide (60 < most) = false := decide_eq_false p1
      clear p1
      go_wp2_with fail
      clear q1
      clear m0 m1 m2 m3 m4
      refine (HBU2.out _ _ HBW1.out).mono ?_
      rintro e w2 ⟨vn, vb, rfl, hrd, hb2⟩
      have HBW2 := hidden (below_then HBW1.out HBW1.out.size hb2)
      have HB2 := hidden (below_then HB1.out (by have := HB1.out.size; have := HS0.out; omega) hb2)
      have HRD2 := hidden hrd
      obtain ⟨an, cn, rfl⟩ := hrd.next.form
      obtain ⟨al, cl, rfl⟩ := hrd.label.form
      clear hrd hb2
      dsimp only
      go_wp2_with (first
        | (refine store_dfa rfl (x := .tmp 5) (y := .tmp 25) rfl rfl rfl (DfaAt.new w2 zG 0 (.slice none 0 0) (.slice none 0 0)) rfl rfl ?_; intro w3 hA3 hg3 hs3; have HA3 := hidden hA3; have hb3 := ((Below.refl w2.heap.size w2).alloc (Nat.le_refl _) (.cells (dfaC zG 0 (.slice none 0 0) (.slice none 0 0)) 32)).grown hg3 (by simp) (by intro k hk; simp only [Option.some.injEq] at hk; omega); have HRD3 := hidden (HRD2.out.below hb3 hb3.size); have HBW3 := hidden (below_then HBW2.out HBW2.out.size hb3); have HB3 := hidden (below_then HB2.out (by have := HB2.out.size; have := HS0.out; omega) hb3); clear hA3 hg3 hs3 hb3; obtain ⟨m0, m1, m2, m3, m4⟩ := HBX.out _ HB3.out)
        | fail)
      clear m0 m1 m2 m3 m4
      refine (HRB2.out _ _ HBW3.out).mono ?_
      rintro e w4 ⟨vn4, vb4, rfl, hrd, hb4⟩
      have HBW4 := hidden (below_then HBW3.out HBW3.out.size hb4)
      have HA4 := hidden (HA3.out.below hb4)
      have HRD34 := hidden (HRD3.out.below hb4 hb4.size)
      have HRD4 := hidden hrd
      obtain ⟨an4, cn4, rfl⟩ := hrd.next.form
      obtain ⟨al4, cl4, rfl⟩ := hrd.label.form
      clear hrd hb4 HRD2 HRD3 HA3
      dsimp only
      go_wp2_with (first
        | (refine store_dfa rfl (x := .tmp 8) (y := .tmp 32) rfl rfl rfl (DfaAt.new w4 zG 0 (.slice none 0 0) (.slice none 0 0)) rfl rfl ?_; intro w5 hA5 hg5 hs5; have HA5 := hidden hA5; have hb5 := ((Below.refl w4.heap.size w4).alloc (Nat.le_refl _) (.cells (dfaC zG 0 (.slice none 0 0) (.slice none 0 0)) 32)).grown hg5 (by simp) (by intro k hk; simp only [Option.some.injEq] at hk; omega); have HRD5 := hidden (HRD4.out.below hb5 hb5.size); have HRD35 := hidden (HRD34.out.below hb5 hb5.size); have HA35 := hidden (HA4.out.below hb5); have HBW5 := hidden (below_then HBW4.out HBW4.out.size hb5); clear hA5 hg5 hs5 hb5)
        | (refine load_dfa rfl (x := .tmp 5) rfl rfl HA35.out ?_)
        | (refine load_dfa rfl (x := .tmp 8) rfl rfl HA5.out ?_)
        | fail)
      refine (rsame14_calls HRD35.out HRD5.out).mono ?_
      rintro e w6 ⟨rfl, hb6⟩
      have HA6 := hidden (HA35.out.below hb6)
      have HRD6 := hidden (HRD35.out.below hb6 hb6.size)
      have HBW6 := hidden (below_then HBW5.out HBW5.out.size hb6)
      clear hb6 HRD5 HRD35 HA5 HA35 HRD4 HRD34
      have HRIM := hidden (HRI.out most)
      obtain ⟨cn, hcn⟩ : ∃ x, x = cntB N most := ⟨_, rfl⟩
      obtain ⟨er, her⟩ : ∃ x, x = errB N most := ⟨_, rfl⟩
      obtain ⟨D, hD⟩ : ∃ x, x = machB N most := ⟨_, rfl⟩
      rw [← her, ← hD] at HRIM
      rw [← hD] at HRD6 HA6
      rw [← hcn, ← her, ← hD]
      clear hcn her hD
      have e1 : (cn == cn) = true := by simp
      have e2 : (er == er) = true := by simp
      by_cases he : er = 0
      · subst he
        have HRT := hidden (HRIM.out rfl)
        go_wp2_with fail
        refine wpl_any (x := .tmp 5) rfl rfl (run_load_dfa HA6.out) ?_
        simp only [Act.put, List.setIfInBounds_toArray, List.set_cons_zero, List.set_cons_succ]
        go_wp2_with fail
        refine (right14_calls HRD6.out).mono ?_
        rintro e w7 ⟨rfl, hb7⟩
        rw [HRT.out]
        have HBW7 := hidden (below_then HBW6.out HBW6.out.size hb7)
        clear hb7
        go_wp2_with fail
        refine (knows14_calls _ (HPW.out _ HBW7.out)).mono ?_
        rintro e w8 ⟨rfl, hb8⟩
        go_wp2
        go_ret
        exact ⟨rfl, below_then HBW7.out HBW7.out.size hb8⟩
      · have e3 : (er != 0) = true := by simp [he]
        have e4 : (er == 0) = false := by simp [he]
        clear he
        go_wp2_with fail
        refine (knows14_calls _ (HPW.out _ HBW6.out)).mono ?_
        rintro e w8 ⟨rfl, hb8⟩
        go_wp2
        go_ret
        exact ⟨rfl, below_then HBW6.out HBW6.out.size hb8⟩
namespace lawDfaBuilds
open Go.ChangeShapes Go.WideShapes Go.ChangeAt Go.RowKit Go.Deep
open Go.ChangeMaps (open_string shut_string)
set_option maxRecDepth 100000 in
theorem lifted (os : Os) (started : os.Started) (H : Type) (enc : TypeId × Value → H) :
    ReturnsInHanded {} Tryz.checked os 3 .any (fun w args => (Rows.dfaBuildsSpec.pre enc Tryz.prog Tryz.f3 Rows.dfaBuildsRow.domain false w args ∧ laidMetH Tryz.prog [("math/bits.deBruijn32tab", Rows.laid_math_bits_deBruijn32tab), ("math/bits.deBruijn64tab", Rows.laid_math_bits_deBruijn64tab), ("internal/strconv.uint64pow10", Rows.laid_internal_strconv_uint64pow10)] w) ∧ sizedMet enc Tryz.prog Tryz.f3 (OpenSpec.ofChange Rows.dfaBuildsSpec) false w args)
      (Rows.dfaBuildsSpec.post enc Tryz.prog Tryz.f3 false true false false) := by
  refine returnsInHanded_of_change_and (C := Tryz.checked) (X := fun w _ => laidMetH Tryz.prog [("math/bits.deBruijn32tab", Rows.laid_math_bits_deBruijn32tab), ("math/bits.deBruijn64tab", Rows.laid_math_bits_deBruijn64tab), ("internal/strconv.uint64pow10", Rows.laid_internal_strconv_uint64pow10)] w) (fun _ _ _ hh h => h.of_heap hh) own started (by kernel_rfl) Tryz.func3
    (ChangeSpec.witness_shaped (enc := enc) (C := Tryz.checked) (os := os) (X := fun w _ => laidMetH Tryz.prog [("math/bits.deBruijn32tab", Rows.laid_math_bits_deBruijn32tab), ("math/bits.deBruijn64tab", Rows.laid_math_bits_deBruijn64tab), ("internal/strconv.uint64pow10", Rows.laid_internal_strconv_uint64pow10)] w) false (World.laidAll Tryz.prog os [("math/bits.deBruijn32tab", Rows.laid_math_bits_deBruijn32tab), ("math/bits.deBruijn64tab", Rows.laid_math_bits_deBruijn64tab), ("internal/strconv.uint64pow10", Rows.laid_internal_strconv_uint64pow10)]) #[.agg #[.slice none 0 0, .slice none 0 0, .slice none 0 0, .slice none 0 0, .slice none 0 0], .int .i64 0] 8 (World.laidAll_os _ _ _)
      (World.shaped_of_ZipB (by kernel_rfl) (by kernel_rfl)) (by kernel_rfl) (by kernel_rfl) (by kernel_rfl)
      (by rw [MakeChecks.laidMetH_plain _ _ _ (by kernel_rfl)]; exact laidMet_laidAll _ (by kernel_rfl) (by kernel_rfl))) ?_
  intro W base args ds gs before hval0 hW hcnd hsz hL _
  have hval : ∀ (j : Nat) t v, Tryz.f3.params[j]? = some t → args[j]? = some v → Value.okWide Tryz.prog W .any base t v := hval0
  have hW' : DataW.Whole enc Tryz.prog Tryz.f3.params.toList Rows.dfaBuildsSpec.vars false W args.toList ds gs before := hW
  obtain ⟨p, q, hA0, hV, rfl, hfz, hnd⟩ := hW
  have hA : DataW.TrodAll enc Tryz.prog W 0 (fun _ => true) true Tryz.f3.params.toList args.toList ds p := hA0
  have ht : Pow W := of_laid (by kernel_rfl) (by kernel_rfl) (by kernel_rfl) hL
  rw [Tryz.params3] at hA hval
  obtain ⟨v0, vs0, d0, ds0, p0, q0, hargs, hd0, hp0, h0, r0⟩ := trodAll_cons hA
  obtain ⟨v1, vs1, d1, ds1, p1, q1, rfl, hd1, hp1, h1, r1⟩ := trodAll_cons r0
  obtain ⟨rfl, _, _⟩ := trodAll_nil r1
  obtain rfl : args = #[v0, v1] := by cases args; simp_all
  obtain ⟨s0a, s0b, s0c, s0d, s0e, z0, rfl, w0⟩ := open_net (hval 0 27 v0 rfl rfl) h0 (fun n hn => by
    have := List.all_eq_true.1 hsz n (DataW.weights_mem_each (j := 0) (t := 27) (d := d0) (by rw [Tryz.params3]; rfl) (by simp [hd0]) n hn)
    simpa using this)
  obtain ⟨a1, rfl, _, _, w1⟩ := open_int Tryz.underlying3 (hval 1 3 v1 rfl rfl) h1
  refine (walkDfBuilds s0a s0b s0c s0d s0e z0 a1 W w0 (wf_i64 w1) ht).mono fun e W' ⟨he, hb⟩ => ⟨_, he, ends_true hW' rfl (by kernel_rfl) ?_ (by kernel_rfl) hb⟩
  intro xs hxs
  match xs, hxs with
  | [_, _], _ => rfl

theorem proved : Rows.DfaBuildsSaid :=
  OpenClaim.holds_of_wide 3 Tryz.f3 rfl rfl rfl rfl rfl rfl rfl ⟨rfl, rfl, rfl, rfl, rfl⟩ rfl rfl rfl rfl rfl (by kernel_rfl) Tryz.func3 (by kernel_rfl)
    (of_decide_eq_true (by kernel_rfl)) (by unfold Func.isWrapper; first | (rw [if_pos (by decide +kernel)]; kernel_rfl) | (rw [if_neg (by decide +kernel)]; exact ⟨rfl, rfl⟩))
    (fun os started H enc _ => lifted os started H enc)

/-- the card: the row, and what it lists tied to the program's text -/
theorem card : Rows.DfaBuildsCardSaid :=
  Claim7.holds_tied_plain_at .later [] [.data, .data, .data] true (true, "fb61e93243e8b48a019c411e8d844153cdeb08179d792e0bf509e74ff8910c03") false
    proved (fun _ h => by cases h) (by kernel_rfl) (fun _ h => by cases h) dfaBuilds_row_tie rfl ⟨rfl, rfl⟩ (by kernel_rfl) rfl
    (fun f fn hf hfn => by
      obtain rfl : f = 3 := Option.some.inj ((show Tryz.prog.funcNamed "facsimile/facsimilelaw14.DfaBuilds" = some 3 by kernel_rfl).symm.trans hf) |>.symm
      obtain rfl : fn = Tryz.f3 := (Option.some.inj (Tryz.func3.symm.trans hfn)).symm
      exact ⟨by kernel_rfl, fun j t ht => by
        rw [Tryz.params3] at ht
        have hm : t ∈ [27, 3] := by simpa using Array.mem_of_getElem? ht
        have hall : ([27, 3].all fun u => !Tryz.prog.wantsStandIn u) = true := by kernel_rfl
        exact (show Tryz.prog.wantsStandIn t = false by simpa using List.all_eq_true.1 hall t hm)⟩)
    (by kernel_rfl)

end lawDfaBuilds
end Go.Proofs.YtmpjjnjggihojaaGreatDoor
