/- 'ManySets' answers true for every two lists of numbers and every number: of lists that rise Has, Union, Common, Less and Within answer what the document says. Conditions: none. -/
import Derived.Test.YtbnohmbdfcapkaaMaKn
namespace Go.Proofs.Ytbnohmbdfcapkaa.lawManySets
open Go.ChangeShapes Go.WideShapes Go.ChangeAt Go.RowKit
open Go.ChangeMaps (open_string shut_string)

theorem same_self (l : List Int) : decide (l = l) = true := by simp
set_option maxHeartbeats 16000000 in
set_option maxRecDepth 100000 in
theorem walk (a0 : Option Addr) (l0 c0 : Nat) (xs : List Int) (a1 : Option Addr) (l1 c1 : Nat) (ys : List Int) (n : Int) (w : World)
    (hA : RdZ w.heap.size w (.slice a0 l0 c0) xs ∧ ∀ x ∈ xs, -9223372036854775808 ≤ x ∧ x ≤ 9223372036854775807) (hB : RdZ w.heap.size w (.slice a1 l1 c1) ys ∧ ∀ x ∈ ys, -9223372036854775808 ≤ x ∧ x ≤ 9223372036854775807) (_ : -9223372036854775808 ≤ n ∧ n ≤ 9223372036854775807) :
    Calls Try.prog 3 #[.slice a0 l0 c0, .slice a1 l1 c1, .int .i64 n] w fun e w' => e = .returned (.bool true) ∧ Below w.heap.size w w' := by
  obtain ⟨hA, _⟩ := hA
  obtain ⟨hB, _⟩ := hB
  have hn0 := hA.nums.1
  have hn1 := hB.nums.1
  have HA := hidden (fun W (hb : Below w.heap.size w W) => hA.later hb)
  have HBB := hidden (fun W (hb : Below w.heap.size w W) => hB.later hb)
  have HN0 := hidden hn0
  have HN1 := hidden hn1
  clear hA hB hn0 hn1
  by_cases p0 : 200 < l0
  · have q0 : decide ((200 : Int) < (l0 : Int)) = true := decide_eq_true (by omega)
    have q0' : decide (200 < l0) = true := decide_eq_true p0
    clear p0
    go_enter Try.func3, Try.ntmps3
    go_wp2_with fail
    refine (knows_calls _).mono ?_
    rintro e w99 ⟨rfl, hb99⟩
    go_wp2
    go_ret
    exact ⟨rfl, below_after (Below.refl _ _) hb99⟩
  · have q0 : decide ((200 : Int) < (l0 : Int)) = false := decide_eq_false (by omega)
    have q0' : decide (200 < l0) = false := decide_eq_false p0
    by_cases p1 : 200 < l1
    · have q1 : decide ((200 : Int) < (l1 : Int)) = true := decide_eq_true (by omega)
      have q1' : decide (200 < l1) = true := decide_eq_true p1
      clear p0 p1
      go_enter Try.func3, Try.ntmps3
      go_wp2_with fail
      refine (knows_calls _).mono ?_
      rintro e w99 ⟨rfl, hb99⟩
      go_wp2
      go_ret
      exact ⟨rfl, below_after (Below.refl _ _) hb99⟩
    · have q1 : decide ((200 : Int) < (l1 : Int)) = false := decide_eq_false (by omega)
      have q1' : decide (200 < l1) = false := decide_eq_false p1
      cases hu : upB xs with
      | false =>
        clear p0 p1
        go_enter Try.func3, Try.ntmps3
        go_wp2_with fail
        refine (rright_calls _ _ _ (HA.out _ (Below.refl _ _))).mono ?_
        rintro e w1 ⟨rfl, hb1⟩
        rw [hu]
        have HB1 := hidden (hb1)
        clear hb1
        go_wp2_with fail
        refine (knows_calls _).mono ?_
        rintro e w99 ⟨rfl, hb99⟩
        go_wp2
        go_ret
        exact ⟨rfl, below_after HB1.out hb99⟩
      | true =>
        cases hv : upB ys with
        | false =>
          clear p0 p1
          go_enter Try.func3, Try.ntmps3
          go_wp2_with fail
          refine (rright_calls _ _ _ (HA.out _ (Below.refl _ _))).mono ?_
          rintro e w1 ⟨rfl, hb1⟩
          rw [hu]
          have HB1 := hidden (hb1)
          clear hb1
          go_wp2_with fail
          refine (rright_calls _ _ _ (HBB.out _ HB1.out)).mono ?_
          rintro e w2 ⟨rfl, hb2⟩
          rw [hv]
          have HB2 := hidden (below_after HB1.out hb2)
          clear hb2
          go_wp2_with fail
          refine (knows_calls _).mono ?_
          rintro e w99 ⟨rfl, hb99⟩
          go_wp2
          go_ret
          exact ⟨rfl, below_after HB2.out hb99⟩
        | true =>
          have ux : Up xs := of_decide_eq_true hu
          have uy : Up ys := of_decide_eq_true hv
          have hlx : xs.length ≤ 200 := by have := HN0.out; omega
          have hly : ys.length ≤ 200 := by have := HN1.out; omega
          have E1 := hidden (union_eq ux uy)
          have E2 := hidden (common_eq ux uy)
          have E3 := hidden (less_eq ux uy)
          have UX := hidden ux
          have UY := hidden uy
          have HLX := hidden hlx
          have HLY := hidden hly
          have hh : (decide (n ∈ xs) == decide (n ∈ xs)) = true := by simp
          have hw : ((keptV xs ys false).isEmpty == (((keptV xs ys false).length : Int) == 0)) = true := by
            cases keptV xs ys false <;> simp <;> omega
          clear p0 p1 ux uy hlx hly
          go_enter Try.func3, Try.ntmps3
          go_wp2_with fail
          refine (rright_calls _ _ _ (HA.out _ (Below.refl _ _))).mono ?_
          rintro e w1 ⟨rfl, hb1⟩
          rw [hu]
          have HB1 := hidden (hb1)
          clear hb1
          go_wp2_with fail
          refine (rright_calls _ _ _ (HBB.out _ HB1.out)).mono ?_
          rintro e w2 ⟨rfl, hb2⟩
          rw [hv]
          have HB2 := hidden (below_after HB1.out hb2)
          clear hb2
          go_wp2_with fail
          refine (has_calls _ _ _ n (HA.out _ HB2.out) UX.out (by have := HLX.out; omega)).mono ?_
          rintro e w3 ⟨rfl, hb3⟩
          have HB3 := hidden (below_after HB2.out hb3)
          clear hb3
          go_wp2_with fail
          refine (rhas_calls _ _ _ n (HA.out _ HB3.out)).mono ?_
          rintro e w4 ⟨rfl, hb4⟩
          have HB4 := hidden (below_after HB3.out hb4)
          clear hb4
          go_wp2_with fail
          refine (uni_calls _ _ _ _ _ (HA.out _ HB4.out) (HBB.out _ HB4.out) (by have := HLX.out; have := HLY.out; omega)).mono ?_
          rintro e w5 ⟨vUp, rfl, hr5, hb5⟩
          rw [E1.out] at hr5
          have HB5 := hidden (below_after HB4.out hb5)
          have Up_5 := hidden hr5.reads
          obtain ⟨aUp, cUp, rfl⟩ := hr5.form
          clear hr5 hb5
          go_wp2_with fail
          refine (runion_calls _ _ _ _ _ (HA.out _ HB5.out) (HBB.out _ HB5.out) (by have := HLX.out; omega) (by have := HLY.out; omega)).mono ?_
          rintro e w6 ⟨vUr, rfl, hr6, hb6⟩
          have HB6 := hidden (below_after HB5.out hb6)
          have Up_6 := hidden (Up_5.out.later hb6)
          have Ur_6 := hidden hr6.reads
          obtain ⟨aUr, cUr, rfl⟩ := hr6.form
          clear hr6 hb6
          go_wp2_with fail
          refine (rsame_calls Up_6.out Ur_6.out).mono ?_
          rintro e w7 ⟨rfl, hb7⟩
          rw [same_self]
          have HB7 := hidden (below_after HB6.out hb7)
          have Up_7 := hidden (Up_6.out.later hb7)
          have Ur_7 := hidden (Ur_6.out.later hb7)
          clear hb7
          go_wp2_with fail
          refine (com_calls _ _ _ _ _ (HA.out _ HB7.out) (HBB.out _ HB7.out) (by have := HLX.out; have := HLY.out; omega)).mono ?_
          rintro e w8 ⟨vCp, rfl, hr8, hb8⟩
          rw [E2.out] at hr8
          have HB8 := hidden (below_after HB7.out hb8)
          have Cp_8 := hidden hr8.reads
          obtain ⟨aCp, cCp, rfl⟩ := hr8.form
          clear hr8 hb8
          go_wp2_with fail
          refine (rkept_calls _ _ _ _ _ true (HA.out _ HB8.out) (HBB.out _ HB8.out) (by have := HLX.out; omega)).mono ?_
          rintro e w9 ⟨vCr, rfl, hr9, hb9⟩
          have HB9 := hidden (below_after HB8.out hb9)
          have Cp_9 := hidden (Cp_8.out.later hb9)
          have Cr_9 := hidden hr9.reads
          obtain ⟨aCr, cCr, rfl⟩ := hr9.form
          clear hr9 hb9
          go_wp2_with fail
          refine (rsame_calls Cp_9.out Cr_9.out).mono ?_
          rintro e w10 ⟨rfl, hb10⟩
          rw [same_self]
          have HB10 := hidden (below_after HB9.out hb10)
          have Cp_10 := hidden (Cp_9.out.later hb10)
          have Cr_10 := hidden (Cr_9.out.later hb10)
          clear hb10
          go_wp2_with fail
          refine (les_calls _ _ _ _ _ (HA.out _ HB10.out) (HBB.out _ HB10.out) (by have := HLX.out; have := HLY.out; omega)).mono ?_
          rintro e w11 ⟨vLp, rfl, hr11, hb11⟩
          rw [E3.out] at hr11
          have HB11 := hidden (below_after HB10.out hb11)
          have Lp_11 := hidden hr11.reads
          obtain ⟨aLp, cLp, rfl⟩ := hr11.form
          clear hr11 hb11
          go_wp2_with fail
          refine (rkept_calls _ _ _ _ _ false (HA.out _ HB11.out) (HBB.out _ HB11.out) (by have := HLX.out; omega)).mono ?_
          rintro e w12 ⟨vLr, rfl, hr12, hb12⟩
          have HB12 := hidden (below_after HB11.out hb12)
          have Lp_12 := hidden (Lp_11.out.later hb12)
          have Lr_12 := hidden hr12.reads
          obtain ⟨aLr, cLr, rfl⟩ := hr12.form
          clear hr12 hb12
          go_wp2_with fail
          refine (rsame_calls Lp_12.out Lr_12.out).mono ?_
          rintro e w13 ⟨rfl, hb13⟩
          rw [same_self]
          have HB13 := hidden (below_after HB12.out hb13)
          have Lp_13 := hidden (Lp_12.out.later hb13)
          have Lr_13 := hidden (Lr_12.out.later hb13)
          clear hb13
          go_wp2_with fail
          refine (within_calls _ _ _ _ _ (HA.out _ HB13.out) (HBB.out _ HB13.out)).mono ?_
          rintro e w14 ⟨rfl, hb14⟩
          rw [E3.out]
          have HB14 := hidden (below_after HB13.out hb14)
          clear hb14
          go_wp2_with fail
          refine (rkept_calls _ _ _ _ _ false (HA.out _ HB14.out) (HBB.out _ HB14.out) (by have := HLX.out; omega)).mono ?_
          rintro e w15 ⟨vK, rfl, hr15, hb15⟩
          have HB15 := hidden (below_after HB14.out hb15)
          have K_15 := hidden hr15.reads
          obtain ⟨aK, cK, rfl⟩ := hr15.form
          clear hr15 hb15
          go_wp2_with fail
          refine (knows_calls _).mono ?_
          rintro e w99 ⟨rfl, hb99⟩
          go_wp2
          go_ret
          exact ⟨rfl, below_after HB15.out hb99⟩

set_option maxRecDepth 100000 in
theorem lifted (os : Os) (started : os.Started) (H : Type) (enc : TypeId × Value → H) :
    ReturnsInHanded {} Try.checked os 3 .any (Rows.manySetsSpec.pre6 enc Try.prog Try.f3 Rows.manySetsRow.domain false) (Rows.manySetsSpec.post enc Try.prog Try.f3 false true false false) := by
  refine returnsInHanded_of_change (C := Try.checked) own started (by kernel_rfl) Try.func3
    (ChangeSpec.witness6 (enc := enc) (C := Try.checked) false ⟨#[], #[.slice none 0 0, .slice none 0 0, .int .i64 0], []⟩ 8 (by kernel_rfl) (by kernel_rfl) (by kernel_rfl) (by kernel_rfl)) ?_
  intro W base args ds gs before hval0 hW hcnd _
  have hval : ∀ (j : Nat) t v, Try.f3.params[j]? = some t → args[j]? = some v → Value.okWide Try.prog W .any base t v := hval0
  have hW' : DataW.Whole enc Try.prog Try.f3.params.toList Rows.manySetsSpec.vars false W args.toList ds gs before := hW
  obtain ⟨p, q, hA0, hV, rfl, hfz, hnd⟩ := hW
  have hA : DataW.TrodAll enc Try.prog W 0 (fun _ => true) true Try.f3.params.toList args.toList ds p := hA0
  have hlt : ∀ x ∈ p, x.block < W.heap.size := fun x hx => hW'.lt x (List.mem_append_left _ hx)
  rw [Try.params3] at hA hval
  obtain ⟨v0, vs0, d0, ds0, p0, q0, hargs, hd0, hp0, h0, r0⟩ := trodAll_cons hA
  obtain ⟨v1, vs1, d1, ds1, p1, q1, rfl, hd1, hp1, h1, r1⟩ := trodAll_cons r0
  obtain ⟨v2, vs2, d2, ds2, p2, q2, rfl, hd2, hp2, h2, r2⟩ := trodAll_cons r1
  obtain ⟨rfl, _, _⟩ := trodAll_nil r2
  obtain rfl : args = #[v0, v1, v2] := by cases args; simp_all
  obtain ⟨a0, len0, cap0, rfl⟩ := okWide_slice Try.underlying22 (hval 0 22 v0 rfl rfl)
  obtain ⟨z0, w0⟩ := open_zs h0
  obtain ⟨a1, len1, cap1, rfl⟩ := okWide_slice Try.underlying22 (hval 1 22 v1 rfl rfl)
  obtain ⟨z1, w1⟩ := open_zs h1
  obtain ⟨a2, rfl, _, _, w2⟩ := open_int Try.underlying3 (hval 2 3 v2 rfl rfl) h2
  refine (walk a0 len0 cap0 z0 a1 len1 cap1 z1 a2 W w0 w1 (wf_i64 w2)).mono fun e W' ⟨he, hb⟩ => ⟨_, he, ends_true hW' rfl (by kernel_rfl) ?_ (by kernel_rfl) hb⟩
  intro xs hxs
  match xs, hxs with
  | [_, _, _], _ => rfl

theorem proved : Rows.ManySetsSaid :=
  OpenClaim.holds_of_wide 3 Try.f3 rfl rfl rfl rfl rfl rfl rfl ⟨rfl, rfl, rfl, rfl, rfl⟩ rfl rfl rfl rfl rfl (by kernel_rfl) Try.func3 (by kernel_rfl)
    (of_decide_eq_true (by kernel_rfl)) (by unfold Func.isWrapper; first | (rw [if_pos (by decide +kernel)]; kernel_rfl) | (rw [if_neg (by decide +kernel)]; exact ⟨rfl, rfl⟩))
    (fun os started H enc _ => lifted os started H enc)

end Go.Proofs.Ytbnohmbdfcapkaa.lawManySets
