/- 'EscBack' answers true for every four: a text is taken of what is put of it, wherever it stands; what is taken is what is put; cut off, it is too short; and the chapter's examples hold. Conditions: the table of names holds what its initialiser lays (listed and tied). -/
import Derived.Test.YtkonmgfgnppmlaaDoorEscOpen
namespace Go.Proofs.YtkonmgfgnppmlaaDoor.lawEscBack
open Go.ChangeShapes Go.WideShapes Go.ChangeAt Go.RowKit
open Go.ChangeMaps (open_string shut_string)

theorem putB_size (s : ByteArray) : (putB s).size ≤ 4 * s.size + 2 := by
  have h := chrs_le s.data.toList
  have e : (putB s).size = (putL s.data.toList).length := by simp [putB, ByteArray.size]
  rw [e]
  simp [putL] at h ⊢
  omega
theorem chrs_ge : ∀ l : List UInt8, l.length ≤ (chrs l).length
  | [] => by simp
  | c :: l => by
    have := chrs_ge l
    have := chr_pos c.toNat c.toNat_lt
    rw [chrs_cons, List.length_append, List.length_cons]
    omega
theorem size_of_take {b : ByteArray} {x : List UInt8} {n : Nat} (h : putB ⟨x.toArray⟩ = b.extract 0 n) (hn : n ≤ b.size) : (⟨x.toArray⟩ : ByteArray).size ≤ b.size := by
  have h1 := chrs_ge x
  have h2 : (putB ⟨x.toArray⟩).size = (putL x).length := by simp [putB, ByteArray.size]
  have h3 : (b.extract 0 n).size = n := by simp [ByteArray.size_extract]; omega
  have h4 : (⟨x.toArray⟩ : ByteArray).size = x.length := by simp [ByteArray.size]
  rw [h, h3] at h2
  simp [putL] at h2
  omega
theorem take_of_put (s a b : ByteArray) : takeV (a ++ putB s ++ b).data.toList (a.size : Int) = (s.data.toList, a.size + (putB s).size, 0) := by
  have h := take_put a.data.toList s.data.toList b.data.toList
  have e1 : (a ++ putB s ++ b).data.toList = a.data.toList ++ putL s.data.toList ++ b.data.toList := by simp [putB, ByteArray.data_append]
  have e2 : a.data.toList.length = a.size := by simp
  have e3 : (putB s).size = (putL s.data.toList).length := by simp [putB, ByteArray.size]
  rw [e1, e3, ← e2]
  exact h
theorem put_of_take {b : ByteArray} {x : List UInt8} {n : Nat} (h : takeV b.data.toList 0 = (x, n, 0)) : 2 ≤ n ∧ n ≤ b.size ∧ putB ⟨x.toArray⟩ = b.extract 0 n := by
  obtain ⟨h1, h2, h3⟩ := take_ok h
  have e2 : b.data.toList.length = b.size := by simp
  refine ⟨h1, by omega, ?_⟩
  apply Go.WideShapes.bytes_inj
  show putL x = _
  rw [h3]
  simp
theorem get_of_cut (s : ByteArray) (k : Nat) (h0 : 1 ≤ k) (hk : k < (putB s).size) : getV ((putB s).extract 0 k).data.toList = ([], 4) := by
  have e3 : (putB s).size = (putL s.data.toList).length := by simp [putB, ByteArray.size]
  have := get_cut s.data.toList k h0 (by omega)
  rw [← this]
  simp [putB]

set_option maxHeartbeats 4000000 in
set_option maxRecDepth 100000 in
theorem walk (s a b : ByteArray) (c : Int) (w : World) (_ : s.size ≤ maxLen) (_ : a.size ≤ maxLen) (_ : b.size ≤ maxLen) (hc : 0 ≤ c ∧ c ≤ 255) (ht : Tab w) :
    Calls Tryd.prog 5 #[.string s, .string a, .string b, .int .u8 c] w fun e w' => e = .returned (.bool true) ∧ Below w.heap.size w w' := by
  have HT := hidden ht
  clear ht
  by_cases hbig : 300 < s.size ∨ 100 < a.size ∨ 100 < b.size
  · have d1 : 300 < s.size ∨ ¬ 300 < s.size := by omega
    have d2 : 100 < a.size ∨ ¬ 100 < a.size := by omega
    rcases d1 with d1 | d1
    · have e1 : decide ((300 : Int) < s.size) = true := by simp; omega
      clear hbig
      go_enter Tryd.func5, Tryd.ntmps5
      go_wp2_with fail
      refine (knows_calls _ HT.out).mono ?_
      rintro e w1 ⟨rfl, hb1⟩
      go_wp2
      go_ret
      exact ⟨rfl, hb1⟩
    · have e1 : decide ((300 : Int) < s.size) = false := by simp; omega
      rcases d2 with d2 | d2
      · have e2 : decide ((100 : Int) < a.size) = true := by simp; omega
        clear hbig
        go_enter Tryd.func5, Tryd.ntmps5
        go_wp2_with fail
        refine (knows_calls _ HT.out).mono ?_
        rintro e w1 ⟨rfl, hb1⟩
        go_wp2
        go_ret
        exact ⟨rfl, hb1⟩
      · have e2 : decide ((100 : Int) < a.size) = false := by simp; omega
        have e3 : decide ((100 : Int) < b.size) = true := by simp; omega
        clear hbig
        go_enter Tryd.func5, Tryd.ntmps5
        go_wp2_with fail
        refine (knows_calls _ HT.out).mono ?_
        rintro e w1 ⟨rfl, hb1⟩
        go_wp2
        go_ret
        exact ⟨rfl, hb1⟩
  · have e1 : decide ((300 : Int) < s.size) = false := by simp; omega
    have e2 : decide ((100 : Int) < a.size) = false := by simp; omega
    have e3 : decide ((100 : Int) < b.size) = false := by simp; omega
    have hq := putB_size s
    have hput := hidden (fun W h => put_calls s W h (by omega))
    have htk := hidden (fun W h => take_calls (a ++ putB s ++ b) (a.size : Int) W h (by rw [ByteArray.size_append, ByteArray.size_append]; omega))
    rw [take_of_put] at htk
    have hid : (⟨s.data.toList.toArray⟩ : ByteArray) = s := Go.WideShapes.bytes_inj rfl
    unfold T3 at htk
    simp only [hid, Int.natCast_add] at htk
    have hq2 : (putB s).size ≤ 2000 := by omega
    have hqs := text_same s
    have hb0 := hidden (fun W h => take_calls b 0 W h (by omega))
    have hway := fun x n => put_of_take (b := b) (x := x) (n := n)
    generalize takeV b.data.toList 0 = y at hb0 hway
    obtain ⟨x, n, e⟩ := y
    unfold T3 at hb0
    simp only at hb0
    have hputX := fun W h => put_calls ⟨x.toArray⟩ W h
    obtain ⟨k, rfl⟩ := Int.eq_ofNat_of_zero_le hc.1
    have hgetC : 1 + k < (putB s).size → ∀ W, Tab W → Calls Tryd.prog 13 #[.string ((putB s).extract 0 (1 + k))] W fun e w' => e = T2 ([], 4) ∧ Below W.heap.size W w' := fun hk W h => by
      have := get_calls ((putB s).extract 0 (1 + k)) W h (by simp [ByteArray.size_extract]; omega)
      rwa [get_of_cut s (1 + k) (by omega) hk] at this
    have hcut := hidden hgetC
    clear hgetC hid
    by_cases he : e = 0
    · subst he
      obtain ⟨f1, f2, f3⟩ := hway x n rfl
      have hpx : (⟨x.toArray⟩ : ByteArray).size ≤ 100000 := by have := size_of_take f3 f2; omega
      have hX := hidden (fun W h => hputX W h hpx)
      rw [f3] at hX
      have g1 : decide ((n : Int) < 2) = false := by simp; omega
      have g2 : decide ((b.size : Int) < n) = false := by simp; omega
      have g3 : decide (b.size < n) = false := by simp; omega
      have g4 := text_same (b.extract 0 n)
      clear hway hputX f3 hpx hq
      generalize (⟨x.toArray⟩ : ByteArray) = X at *
      generalize putB s = Q at *
      by_cases hk : 1 + k < Q.size
      · have hk1 : decide (1 + (k : Int) < Q.size) = true := by simp; omega
        have hC := hidden (hcut.out hk)
        clear hcut
        go_enter Tryd.func5, Tryd.ntmps5
        go_wp2_with fail
        refine (hput.out _ HT.out).mono ?_
        rintro e w1 ⟨rfl, hb1⟩
        go_wp2_with fail
        refine (htk.out _ (HT.out.below hb1)).mono ?_
        rintro e w2 ⟨rfl, hb2⟩
        have B2 := hidden (below_after hb1 hb2)
        go_wp2_with fail
        refine (hb0.out _ (HT.out.below B2.out)).mono ?_
        rintro e w3 ⟨rfl, hb3⟩
        have B3 := hidden (below_after B2.out hb3)
        go_wp2
        have HTp := hidden (fun p : Later w3 => (HT.out.below B3.out).below p.ok)
        refine wp_region_later (by kernel_rfl) (by kernel_rfl) ?_
        repeat (go_big_quiet_step ((go_at_call 9; exact Later.calls (hX.out _ (HTp.out _)))))
        refine wpQuiet_nil ?_
        rintro _ ⟨⟨w4, hb4⟩, rfl⟩
        have B4 := hidden (below_after B3.out hb4)
        go_wp2_with fail
        refine (hC.out _ (HT.out.below B4.out)).mono ?_
        rintro e w5 ⟨rfl, hb5⟩
        unfold T2
        have B5 := hidden (below_after B4.out hb5)
        go_wp2_with fail
        refine (knows_calls _ (HT.out.below B5.out)).mono ?_
        rintro e w6 ⟨rfl, hb6⟩
        go_wp2
        go_ret
        exact ⟨rfl, below_after B5.out hb6⟩
      · have hk1 : decide (1 + (k : Int) < Q.size) = false := by simp; omega
        clear hcut
        go_enter Tryd.func5, Tryd.ntmps5
        go_wp2_with fail
        refine (hput.out _ HT.out).mono ?_
        rintro e w1 ⟨rfl, hb1⟩
        go_wp2_with fail
        refine (htk.out _ (HT.out.below hb1)).mono ?_
        rintro e w2 ⟨rfl, hb2⟩
        have B2 := hidden (below_after hb1 hb2)
        go_wp2_with fail
        refine (hb0.out _ (HT.out.below B2.out)).mono ?_
        rintro e w3 ⟨rfl, hb3⟩
        have B3 := hidden (below_after B2.out hb3)
        go_wp2
        have HTp := hidden (fun p : Later w3 => (HT.out.below B3.out).below p.ok)
        refine wp_region_later (by kernel_rfl) (by kernel_rfl) ?_
        repeat (go_big_quiet_step ((go_at_call 9; exact Later.calls (hX.out _ (HTp.out _)))))
        refine wpQuiet_nil ?_
        rintro _ ⟨⟨w4, hb4⟩, rfl⟩
        have B4 := hidden (below_after B3.out hb4)
        go_wp2_with fail
        refine (knows_calls _ (HT.out.below B4.out)).mono ?_
        rintro e w5 ⟨rfl, hb5⟩
        go_wp2
        go_ret
        exact ⟨rfl, below_after B4.out hb5⟩
    · have he0 : (e == 0) = false := by simpa using he
      clear hway hputX hq he
      generalize (⟨x.toArray⟩ : ByteArray) = X at *
      generalize putB s = Q at *
      by_cases hk : 1 + k < Q.size
      · have hk1 : decide (1 + (k : Int) < Q.size) = true := by simp; omega
        have hC := hidden (hcut.out hk)
        clear hcut
        go_enter Tryd.func5, Tryd.ntmps5
        go_wp2_with fail
        refine (hput.out _ HT.out).mono ?_
        rintro e w1 ⟨rfl, hb1⟩
        go_wp2_with fail
        refine (htk.out _ (HT.out.below hb1)).mono ?_
        rintro e w2 ⟨rfl, hb2⟩
        have B2 := hidden (below_after hb1 hb2)
        go_wp2_with fail
        refine (hb0.out _ (HT.out.below B2.out)).mono ?_
        rintro e w3 ⟨rfl, hb3⟩
        have B3 := hidden (below_after B2.out hb3)
        go_wp2
        have HTp := hidden (fun p : Later w3 => (HT.out.below B3.out).below p.ok)
        refine wp_region_later (by kernel_rfl) (by kernel_rfl) ?_
        repeat (go_big_quiet_step (fail))
        refine wpQuiet_nil ?_
        rintro _ ⟨⟨w4, hb4⟩, rfl⟩
        have B4 := hidden (below_after B3.out hb4)
        go_wp2_with fail
        refine (hC.out _ (HT.out.below B4.out)).mono ?_
        rintro e w5 ⟨rfl, hb5⟩
        unfold T2
        have B5 := hidden (below_after B4.out hb5)
        go_wp2_with fail
        refine (knows_calls _ (HT.out.below B5.out)).mono ?_
        rintro e w6 ⟨rfl, hb6⟩
        go_wp2
        go_ret
        exact ⟨rfl, below_after B5.out hb6⟩
      · have hk1 : decide (1 + (k : Int) < Q.size) = false := by simp; omega
        clear hcut
        go_enter Tryd.func5, Tryd.ntmps5
        go_wp2_with fail
        refine (hput.out _ HT.out).mono ?_
        rintro e w1 ⟨rfl, hb1⟩
        go_wp2_with fail
        refine (htk.out _ (HT.out.below hb1)).mono ?_
        rintro e w2 ⟨rfl, hb2⟩
        have B2 := hidden (below_after hb1 hb2)
        go_wp2_with fail
        refine (hb0.out _ (HT.out.below B2.out)).mono ?_
        rintro e w3 ⟨rfl, hb3⟩
        have B3 := hidden (below_after B2.out hb3)
        go_wp2
        have HTp := hidden (fun p : Later w3 => (HT.out.below B3.out).below p.ok)
        refine wp_region_later (by kernel_rfl) (by kernel_rfl) ?_
        repeat (go_big_quiet_step (fail))
        refine wpQuiet_nil ?_
        rintro _ ⟨⟨w4, hb4⟩, rfl⟩
        have B4 := hidden (below_after B3.out hb4)
        go_wp2_with fail
        refine (knows_calls _ (HT.out.below B4.out)).mono ?_
        rintro e w5 ⟨rfl, hb5⟩
        go_wp2
        go_ret
        exact ⟨rfl, below_after B4.out hb5⟩

set_option maxRecDepth 100000 in
theorem lifted (os : Os) (started : os.Started) (H : Type) (enc : TypeId × Value → H) :
    ReturnsInHanded {} Tryd.checked os 5 .any (fun w args => (Rows.escBackSpec.pre enc Tryd.prog Tryd.f5 Rows.escBackRow.domain false w args ∧ laidMetH Tryd.prog [("facsimile/esc.names", Rows.laid_facsimile_esc_names)] w) ∧ sizedMet enc Tryd.prog Tryd.f5 (OpenSpec.ofChange Rows.escBackSpec) false w args)
      (Rows.escBackSpec.post enc Tryd.prog Tryd.f5 false true false false) := by
  refine returnsInHanded_of_change_and (C := Tryd.checked) (X := fun w _ => laidMetH Tryd.prog [("facsimile/esc.names", Rows.laid_facsimile_esc_names)] w) (fun _ _ _ hh h => h.of_heap hh) own started (by kernel_rfl) Tryd.func5
    (ChangeSpec.witness_shaped (enc := enc) (C := Tryd.checked) (os := os) (X := fun w _ => laidMetH Tryd.prog [("facsimile/esc.names", Rows.laid_facsimile_esc_names)] w) false (World.laidAll Tryd.prog os [("facsimile/esc.names", Rows.laid_facsimile_esc_names)]) #[.string ⟨#[]⟩, .string ⟨#[]⟩, .string ⟨#[]⟩, .int .u8 0] 8 (World.laidAll_os _ _ _)
      (World.shaped_of_ZipB (by kernel_rfl) (by kernel_rfl)) (by kernel_rfl) (by kernel_rfl) (by kernel_rfl)
      (by rw [MakeChecks.laidMetH_plain _ _ _ (by kernel_rfl)]; exact laidMet_laidAll _ (by kernel_rfl) (by kernel_rfl))) ?_
  intro W base args ds gs before hval0 hW hcnd _ hL _
  have hval : ∀ (j : Nat) t v, Tryd.f5.params[j]? = some t → args[j]? = some v → Value.okWide Tryd.prog W .any base t v := hval0
  have hW' : DataW.Whole enc Tryd.prog Tryd.f5.params.toList Rows.escBackSpec.vars false W args.toList ds gs before := hW
  obtain ⟨p, q, hA0, hV, rfl, hfz, hnd⟩ := hW
  have hA : DataW.TrodAll enc Tryd.prog W 0 (fun _ => true) true Tryd.f5.params.toList args.toList ds p := hA0
  have ht : Tab W := of_laid (by kernel_rfl) hL
  rw [Tryd.params5] at hA hval
  obtain ⟨v0, vs0, d0, ds0, p0, q0, hargs, hd0, hp0, h0, r0⟩ := trodAll_cons hA
  obtain ⟨v1, vs1, d1, ds1, p1, q1, rfl, hd1, hp1, h1, r1⟩ := trodAll_cons r0
  obtain ⟨v2, vs2, d2, ds2, p2, q2, rfl, hd2, hp2, h2, r2⟩ := trodAll_cons r1
  obtain ⟨v3, vs3, d3, ds3, p3, q3, rfl, hd3, hp3, h3, r3⟩ := trodAll_cons r2
  obtain ⟨rfl, _, _⟩ := trodAll_nil r3
  obtain rfl : args = #[v0, v1, v2, v3] := by cases args; simp_all
  obtain ⟨a0, rfl, _, _, w0⟩ := open_string Tryd.underlying9 (hval 0 9 v0 rfl rfl) h0
  obtain ⟨a1, rfl, _, _, w1⟩ := open_string Tryd.underlying9 (hval 1 9 v1 rfl rfl) h1
  obtain ⟨a2, rfl, _, _, w2⟩ := open_string Tryd.underlying9 (hval 2 9 v2 rfl rfl) h2
  obtain ⟨a3, rfl, _, _, w3⟩ := open_int Tryd.underlying5 (hval 3 5 v3 rfl rfl) h3
  refine (walk a0 a1 a2 a3 W w0 w1 w2 (wf_u8 w3) ht).mono fun e W' ⟨he, hb⟩ => ⟨_, he, ends_true hW' rfl (by kernel_rfl) ?_ (by kernel_rfl) hb⟩
  intro xs hxs
  match xs, hxs with
  | [_, _, _, _], _ => rfl

theorem proved : Rows.EscBackSaid :=
  OpenClaim.holds_of_wide 5 Tryd.f5 rfl rfl rfl rfl rfl rfl rfl ⟨rfl, rfl, rfl, rfl, rfl⟩ rfl rfl rfl rfl rfl (by kernel_rfl) Tryd.func5 (by kernel_rfl)
    (of_decide_eq_true (by kernel_rfl)) (by unfold Func.isWrapper; first | (rw [if_pos (by decide +kernel)]; kernel_rfl) | (rw [if_neg (by decide +kernel)]; exact ⟨rfl, rfl⟩))
    (fun os started H enc _ => lifted os started H enc)

/-- the card: the row, and what it lists tied to the program's text -/
theorem card : Rows.EscBackCardSaid :=
  Claim7.holds_tied_plain_at .later [] [.data] true (true, "fd3bbbd629adcec9de6f1c4ee4a81e9d9f3180eead7d5014665529acc840523f") false
    proved (fun _ h => by cases h) (by kernel_rfl) (fun _ h => by cases h) escBack_row_tie rfl ⟨rfl, rfl⟩ (by kernel_rfl) rfl
    (fun f fn hf hfn => by
      obtain rfl : f = 5 := Option.some.inj ((show Tryd.prog.funcNamed "facsimile/facsimilelaw05.EscBack" = some 5 by kernel_rfl).symm.trans hf) |>.symm
      obtain rfl : fn = Tryd.f5 := (Option.some.inj (Tryd.func5.symm.trans hfn)).symm
      exact ⟨by kernel_rfl, fun j t ht => by
        rw [Tryd.params5] at ht
        have hm : t ∈ [9, 9, 9, 5] := by simpa using Array.mem_of_getElem? ht
        have hall : ([9, 9, 9, 5].all fun u => !Tryd.prog.wantsStandIn u) = true := by kernel_rfl
        exact (show Tryd.prog.wantsStandIn t = false by simpa using List.all_eq_true.1 hall t hm)⟩)
    (by kernel_rfl)
end Go.Proofs.YtkonmgfgnppmlaaDoor.lawEscBack
