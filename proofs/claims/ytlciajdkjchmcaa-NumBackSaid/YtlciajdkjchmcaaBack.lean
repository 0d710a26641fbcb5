/- 'NumBack' answers true for every number and every text: a number is read of its digits, and digits that are read are the number's; with a smaller bound the number is out of range; and the chapter's examples hold. Conditions: none. -/
import Derived.Test.YtlciajdkjchmcaaKnows
import Derived.Test.YtlciajdkjchmcaaDigits
namespace Go.Proofs.Ytlciajdkjchmcaa.lawNumBack
open Go.ChangeShapes Go.WideShapes Go.ChangeAt Go.RowKit
open Go.ChangeMaps (open_string shut_string)

set_option maxHeartbeats 1000000 in
theorem walk (n : Int) (s : ByteArray) (w : World) (hn : -9223372036854775808 ≤ n ∧ n ≤ 9223372036854775807) (hs : s.size ≤ maxLen) :
    Calls Try.prog 7 #[.int .i64 n, .string s] w fun e w' => e = .returned (.bool true) ∧ Below w.heap.size w w' := by
  rcases read_ways s n with hr | hr | ⟨m, hr, hm, hsm⟩
  · replace hr := hidden hr
    by_cases hneg : n < 0
    · have hV := hidden (show strOfNums (showV n) = ⟨#[]⟩ by rw [showV, if_pos hneg]; rfl)
      go_enter Try.func7, Try.ntmps7
      go_wp2_with fail
      refine (read_calls s _ _ hs hn.1 hn.2).mono ?_
      rintro e w1 ⟨rfl, rfl⟩
      rw [hr.out]
      go_wp2_with fail
      refine (show_calls n _ hn.1 hn.2).mono ?_
      rintro e w3 ⟨rfl, hb3⟩
      rw [hV.out]
      go_wp2_with fail
      refine (knows_calls _).mono ?_
      rintro e w4 ⟨rfl, hb4⟩
      go_wp2
      go_ret
      exact ⟨rfl, below_after hb3 hb4⟩
    · obtain ⟨k, rfl⟩ := Int.eq_ofNat_of_zero_le (show 0 ≤ n by omega)
      have hsz : (strOfNums (showV (k : Int))).size ≤ maxLen := by
        rw [showV, if_neg (by omega), strOfNums_size]
        have := dec_len 18 k (by omega)
        unfold maxLen
        rw [show (k : Int).toNat = k by omega]
        omega
      have hdat : (strOfNums (showV (k : Int))).data.toList = digs k := by rw [showV, if_neg (by omega)]; rfl
      have hR1 := hidden (show readV (strOfNums (showV (k : Int))).data.toList k = ((k : Int), 0) by rw [hdat, read_digs, if_pos (Int.le_refl _)])
      have hR2 := hidden (show readV (strOfNums (showV (k : Int))).data.toList (k - 1) = (0, 2) by rw [hdat, read_digs, if_neg (by omega)])
      clear hdat
      go_enter Try.func7, Try.ntmps7
      go_wp2_with fail
      refine (read_calls s _ _ hs hn.1 hn.2).mono ?_
      rintro e w1 ⟨rfl, rfl⟩
      rw [hr.out]
      go_wp2_with fail
      refine (show_calls k _ hn.1 hn.2).mono ?_
      rintro e w3 ⟨rfl, hb3⟩
      go_wp2_with fail
      refine (read_calls _ k _ hsz hn.1 hn.2).mono ?_
      rintro e w4 ⟨rfl, rfl⟩
      rw [hR1.out]
      go_wp2_with fail
      refine (show_calls k _ hn.1 hn.2).mono ?_
      rintro e w5 ⟨rfl, hb5⟩
      go_wp2_with fail
      refine (read_calls _ (k - 1) _ hsz (by omega) (by omega)).mono ?_
      rintro e w6 ⟨rfl, rfl⟩
      rw [hR2.out]
      go_wp2_with fail
      refine (knows_calls _).mono ?_
      rintro e w7 ⟨rfl, hb7⟩
      go_wp2
      go_ret
      exact ⟨rfl, below_after (below_after hb3 hb5) hb7⟩
  · replace hr := hidden hr
    by_cases hneg : n < 0
    · have hV := hidden (show strOfNums (showV n) = ⟨#[]⟩ by rw [showV, if_pos hneg]; rfl)
      go_enter Try.func7, Try.ntmps7
      go_wp2_with fail
      refine (read_calls s _ _ hs hn.1 hn.2).mono ?_
      rintro e w1 ⟨rfl, rfl⟩
      rw [hr.out]
      go_wp2_with fail
      refine (show_calls n _ hn.1 hn.2).mono ?_
      rintro e w3 ⟨rfl, hb3⟩
      rw [hV.out]
      go_wp2_with fail
      refine (knows_calls _).mono ?_
      rintro e w4 ⟨rfl, hb4⟩
      go_wp2
      go_ret
      exact ⟨rfl, below_after hb3 hb4⟩
    · obtain ⟨k, rfl⟩ := Int.eq_ofNat_of_zero_le (show 0 ≤ n by omega)
      have hsz : (strOfNums (showV (k : Int))).size ≤ maxLen := by
        rw [showV, if_neg (by omega), strOfNums_size]
        have := dec_len 18 k (by omega)
        unfold maxLen
        rw [show (k : Int).toNat = k by omega]
        omega
      have hdat : (strOfNums (showV (k : Int))).data.toList = digs k := by rw [showV, if_neg (by omega)]; rfl
      have hR1 := hidden (show readV (strOfNums (showV (k : Int))).data.toList k = ((k : Int), 0) by rw [hdat, read_digs, if_pos (Int.le_refl _)])
      have hR2 := hidden (show readV (strOfNums (showV (k : Int))).data.toList (k - 1) = (0, 2) by rw [hdat, read_digs, if_neg (by omega)])
      clear hdat
      go_enter Try.func7, Try.ntmps7
      go_wp2_with fail
      refine (read_calls s _ _ hs hn.1 hn.2).mono ?_
      rintro e w1 ⟨rfl, rfl⟩
      rw [hr.out]
      go_wp2_with fail
      refine (show_calls k _ hn.1 hn.2).mono ?_
      rintro e w3 ⟨rfl, hb3⟩
      go_wp2_with fail
      refine (read_calls _ k _ hsz hn.1 hn.2).mono ?_
      rintro e w4 ⟨rfl, rfl⟩
      rw [hR1.out]
      go_wp2_with fail
      refine (show_calls k _ hn.1 hn.2).mono ?_
      rintro e w5 ⟨rfl, hb5⟩
      go_wp2_with fail
      refine (read_calls _ (k - 1) _ hsz (by omega) (by omega)).mono ?_
      rintro e w6 ⟨rfl, rfl⟩
      rw [hR2.out]
      go_wp2_with fail
      refine (knows_calls _).mono ?_
      rintro e w7 ⟨rfl, hb7⟩
      go_wp2
      go_ret
      exact ⟨rfl, below_after (below_after hb3 hb5) hb7⟩
  · replace hr := hidden hr
    replace hsm := hidden hsm
    by_cases hneg : n < 0
    · omega
    · obtain ⟨k, rfl⟩ := Int.eq_ofNat_of_zero_le (show 0 ≤ n by omega)
      have hsz : (strOfNums (showV (k : Int))).size ≤ maxLen := by
        rw [showV, if_neg (by omega), strOfNums_size]
        have := dec_len 18 k (by omega)
        unfold maxLen
        rw [show (k : Int).toNat = k by omega]
        omega
      have hdat : (strOfNums (showV (k : Int))).data.toList = digs k := by rw [showV, if_neg (by omega)]; rfl
      have hR1 := hidden (show readV (strOfNums (showV (k : Int))).data.toList k = ((k : Int), 0) by rw [hdat, read_digs, if_pos (Int.le_refl _)])
      have hR2 := hidden (show readV (strOfNums (showV (k : Int))).data.toList (k - 1) = (0, 2) by rw [hdat, read_digs, if_neg (by omega)])
      clear hdat
      go_enter Try.func7, Try.ntmps7
      go_wp2_with fail
      refine (read_calls s _ _ hs hn.1 hn.2).mono ?_
      rintro e w1 ⟨rfl, rfl⟩
      rw [hr.out]
      go_wp2_with fail
      refine (show_calls m _ (by omega) (by omega)).mono ?_
      rintro e w2 ⟨rfl, hb2⟩
      rw [hsm.out]
      go_wp2_with fail
      refine (show_calls k _ hn.1 hn.2).mono ?_
      rintro e w3 ⟨rfl, hb3⟩
      go_wp2_with fail
      refine (read_calls _ k _ hsz hn.1 hn.2).mono ?_
      rintro e w4 ⟨rfl, rfl⟩
      rw [hR1.out]
      go_wp2_with fail
      refine (show_calls k _ hn.1 hn.2).mono ?_
      rintro e w5 ⟨rfl, hb5⟩
      go_wp2_with fail
      refine (read_calls _ (k - 1) _ hsz (by omega) (by omega)).mono ?_
      rintro e w6 ⟨rfl, rfl⟩
      rw [hR2.out]
      go_wp2_with fail
      refine (knows_calls _).mono ?_
      rintro e w7 ⟨rfl, hb7⟩
      go_wp2
      go_ret
      exact ⟨rfl, below_after (below_after (below_after hb2 hb3) hb5) hb7⟩

set_option maxRecDepth 100000 in
theorem lifted (os : Os) (started : os.Started) (H : Type) (enc : TypeId × Value → H) :
    ReturnsInHanded {} Try.checked os 7 .any (Rows.numBackSpec.pre6 enc Try.prog Try.f7 Rows.numBackRow.domain false) (Rows.numBackSpec.post enc Try.prog Try.f7 false true false false) := by
  refine returnsInHanded_of_change (C := Try.checked) own started (by kernel_rfl) Try.func7
    (ChangeSpec.witness6 (enc := enc) (C := Try.checked) false ⟨#[], #[.int .i64 0, .string ⟨#[]⟩], []⟩ 8 (by kernel_rfl) (by kernel_rfl) (by kernel_rfl) (by kernel_rfl)) ?_
  intro W base args ds gs before hval0 hW hcnd _
  have hval : ∀ (j : Nat) t v, Try.f7.params[j]? = some t → args[j]? = some v → Value.okWide Try.prog W .any base t v := hval0
  have hW' : DataW.Whole enc Try.prog Try.f7.params.toList Rows.numBackSpec.vars false W args.toList ds gs before := hW
  obtain ⟨p, q, hA0, hV, rfl, hfz, hnd⟩ := hW
  have hA : DataW.TrodAll enc Try.prog W 0 (fun _ => true) true Try.f7.params.toList args.toList ds p := hA0
  have hlt : ∀ x ∈ p, x.block < W.heap.size := fun x hx => hW'.lt x (List.mem_append_left _ hx)
  rw [Try.params7] at hA hval
  obtain ⟨v0, vs0, d0, ds0, p0, q0, hargs, hd0, hp0, h0, r0⟩ := trodAll_cons hA
  obtain ⟨v1, vs1, d1, ds1, p1, q1, rfl, hd1, hp1, h1, r1⟩ := trodAll_cons r0
  obtain ⟨rfl, _, _⟩ := trodAll_nil r1
  obtain rfl : args = #[v0, v1] := by cases args; simp_all
  obtain ⟨a0, rfl, _, _, w0⟩ := open_int Try.underlying3 (hval 0 3 v0 rfl rfl) h0
  obtain ⟨a1, rfl, _, _, w1⟩ := open_string Try.underlying9 (hval 1 9 v1 rfl rfl) h1
  refine (walk a0 a1 W (wf_i64 w0) w1).mono fun e W' ⟨he, hb⟩ => ⟨_, he, ends_true hW' rfl (by kernel_rfl) ?_ (by kernel_rfl) hb⟩
  intro xs hxs
  match xs, hxs with
  | [_, _], _ => rfl

theorem proved : Rows.NumBackSaid :=
  OpenClaim.holds_of_wide 7 Try.f7 rfl rfl rfl rfl rfl rfl rfl ⟨rfl, rfl, rfl, rfl, rfl⟩ rfl rfl rfl rfl rfl (by kernel_rfl) Try.func7 (by kernel_rfl)
    (of_decide_eq_true (by kernel_rfl)) (by unfold Func.isWrapper; first | (rw [if_pos (by decide +kernel)]; kernel_rfl) | (rw [if_neg (by decide +kernel)]; exact ⟨rfl, rfl⟩))
    (fun os started H enc _ => lifted os started H enc)
end Go.Proofs.Ytlciajdkjchmcaa.lawNumBack
