/- 'EscTakes' answers true for every text and every place: Take and Get are the document's, and the chapter's examples hold. Conditions: the table of names holds what its initialiser lays (listed and tied). -/
import Derived.Test.YtkonmgfgnppmlaaDoorEscOpen
namespace Go.Proofs.YtkonmgfgnppmlaaDoor.lawEscTakes
open Go.ChangeShapes Go.WideShapes Go.ChangeAt Go.RowKit
open Go.ChangeMaps (open_string shut_string)

set_option maxHeartbeats 1000000 in
set_option maxRecDepth 100000 in
theorem walk (s : ByteArray) (i : Int) (w : World) (_ : s.size ≤ maxLen) (_ : -9223372036854775808 ≤ i ∧ i ≤ 9223372036854775807) (ht : Tab w) :
    Calls Tryd.prog 4 #[.string s, .int .i64 i] w fun e w' => e = .returned (.bool true) ∧ Below w.heap.size w w' := by
  have HT := hidden ht
  clear ht
  by_cases hs : 300 < s.size
  · have hd : decide ((300 : Int) < s.size) = true := by simp; omega
    go_enter Tryd.func4, Tryd.ntmps4
    go_wp2_with fail
    refine (knows_calls _ HT.out).mono ?_
    rintro e w1 ⟨rfl, hb1⟩
    go_wp2
    go_ret
    exact ⟨rfl, hb1⟩
  · have hd : decide ((300 : Int) < s.size) = false := by simp; omega
    have h1 := hidden (fun W h => take_calls s i W h (by omega))
    have h2 := hidden (fun W => rtake_calls s i W (by omega))
    have h3 := hidden (fun W h => get_calls s W h (by omega))
    have h4 := hidden (fun W => rget_calls s W (by omega))
    generalize takeV s.data.toList i = x at h1 h2
    generalize getV s.data.toList = y at h3 h4
    obtain ⟨a, n, e⟩ := x
    obtain ⟨c, g⟩ := y
    unfold T3 at h1 h2
    unfold T2 at h3 h4
    simp only at h1 h2 h3 h4
    generalize (⟨a.toArray⟩ : ByteArray) = A at h1 h2
    generalize (⟨c.toArray⟩ : ByteArray) = C at h3 h4
    generalize (n : Int) = m at h1 h2
    have q1 := text_same A
    have q2 := text_same C
    go_enter Tryd.func4, Tryd.ntmps4
    go_wp2_with fail
    refine (h1.out _ HT.out).mono ?_
    rintro e w1 ⟨rfl, hb1⟩
    go_wp2_with fail
    refine (h2.out _).mono ?_
    rintro e w2 ⟨rfl, hb2⟩
    have B2 := hidden (below_after hb1 hb2)
    go_wp2_with fail
    refine (h3.out _ (HT.out.below B2.out)).mono ?_
    rintro e w3 ⟨rfl, hb3⟩
    go_wp2_with fail
    refine (h4.out _).mono ?_
    rintro e w4 ⟨rfl, hb4⟩
    have B4 := hidden (below_after (below_after B2.out hb3) hb4)
    go_wp2_with fail
    refine (knows_calls _ (HT.out.below B4.out)).mono ?_
    rintro e w5 ⟨rfl, hb5⟩
    go_wp2
    go_ret
    exact ⟨rfl, below_after B4.out hb5⟩

set_option maxRecDepth 100000 in
theorem lifted (os : Os) (started : os.Started) (H : Type) (enc : TypeId × Value → H) :
    ReturnsInHanded {} Tryd.checked os 4 .any (fun w args => (Rows.escTakesSpec.pre enc Tryd.prog Tryd.f4 Rows.escTakesRow.domain false w args ∧ laidMetH Tryd.prog [("facsimile/esc.names", Rows.laid_facsimile_esc_names)] w) ∧ sizedMet enc Tryd.prog Tryd.f4 (OpenSpec.ofChange Rows.escTakesSpec) false w args)
      (Rows.escTakesSpec.post enc Tryd.prog Tryd.f4 false true false false) := by
  refine returnsInHanded_of_change_and (C := Tryd.checked) (X := fun w _ => laidMetH Tryd.prog [("facsimile/esc.names", Rows.laid_facsimile_esc_names)] w) (fun _ _ _ hh h => h.of_heap hh) own started (by kernel_rfl) Tryd.func4
    (ChangeSpec.witness_shaped (enc := enc) (C := Tryd.checked) (os := os) (X := fun w _ => laidMetH Tryd.prog [("facsimile/esc.names", Rows.laid_facsimile_esc_names)] w) false (World.laidAll Tryd.prog os [("facsimile/esc.names", Rows.laid_facsimile_esc_names)]) #[.string ⟨#[]⟩, .int .i64 0] 8 (World.laidAll_os _ _ _)
      (World.shaped_of_ZipB (by kernel_rfl) (by kernel_rfl)) (by kernel_rfl) (by kernel_rfl) (by kernel_rfl)
      (by rw [MakeChecks.laidMetH_plain _ _ _ (by kernel_rfl)]; exact laidMet_laidAll _ (by kernel_rfl) (by kernel_rfl))) ?_
  intro W base args ds gs before hval0 hW hcnd _ hL _
  have hval : ∀ (j : Nat) t v, Tryd.f4.params[j]? = some t → args[j]? = some v → Value.okWide Tryd.prog W .any base t v := hval0
  have hW' : DataW.Whole enc Tryd.prog Tryd.f4.params.toList Rows.escTakesSpec.vars false W args.toList ds gs before := hW
  obtain ⟨p, q, hA0, hV, rfl, hfz, hnd⟩ := hW
  have hA : DataW.TrodAll enc Tryd.prog W 0 (fun _ => true) true Tryd.f4.params.toList args.toList ds p := hA0
  have ht : Tab W := of_laid (by kernel_rfl) hL
  rw [Tryd.params4] at hA hval
  obtain ⟨v0, vs0, d0, ds0, p0, q0, hargs, hd0, hp0, h0, r0⟩ := trodAll_cons hA
  obtain ⟨v1, vs1, d1, ds1, p1, q1, rfl, hd1, hp1, h1, r1⟩ := trodAll_cons r0
  obtain ⟨rfl, _, _⟩ := trodAll_nil r1
  obtain rfl : args = #[v0, v1] := by cases args; simp_all
  obtain ⟨a0, rfl, _, _, w0⟩ := open_string Tryd.underlying9 (hval 0 9 v0 rfl rfl) h0
  obtain ⟨a1, rfl, _, _, w1⟩ := open_int Tryd.underlying3 (hval 1 3 v1 rfl rfl) h1
  refine (walk a0 a1 W w0 (wf_i64 w1) ht).mono fun e W' ⟨he, hb⟩ => ⟨_, he, ends_true hW' rfl (by kernel_rfl) ?_ (by kernel_rfl) hb⟩
  intro xs hxs
  match xs, hxs with
  | [_, _], _ => rfl

theorem proved : Rows.EscTakesSaid :=
  OpenClaim.holds_of_wide 4 Tryd.f4 rfl rfl rfl rfl rfl rfl rfl ⟨rfl, rfl, rfl, rfl, rfl⟩ rfl rfl rfl rfl rfl (by kernel_rfl) Tryd.func4 (by kernel_rfl)
    (of_decide_eq_true (by kernel_rfl)) (by unfold Func.isWrapper; first | (rw [if_pos (by decide +kernel)]; kernel_rfl) | (rw [if_neg (by decide +kernel)]; exact ⟨rfl, rfl⟩))
    (fun os started H enc _ => lifted os started H enc)

/-- the card: the row, and what it lists tied to the program's text -/
theorem card : Rows.EscTakesCardSaid :=
  Claim7.holds_tied_plain_at .later [] [.data] true (true, "fd3bbbd629adcec9de6f1c4ee4a81e9d9f3180eead7d5014665529acc840523f") false
    proved (fun _ h => by cases h) (by kernel_rfl) (fun _ h => by cases h) escTakes_row_tie rfl ⟨rfl, rfl⟩ (by kernel_rfl) rfl
    (fun f fn hf hfn => by
      obtain rfl : f = 4 := Option.some.inj ((show Tryd.prog.funcNamed "facsimile/facsimilelaw05.EscTakes" = some 4 by kernel_rfl).symm.trans hf) |>.symm
      obtain rfl : fn = Tryd.f4 := (Option.some.inj (Tryd.func4.symm.trans hfn)).symm
      exact ⟨by kernel_rfl, fun j t ht => by
        rw [Tryd.params4] at ht
        have hm : t ∈ [9, 3] := by simpa using Array.mem_of_getElem? ht
        have hall : ([9, 3].all fun u => !Tryd.prog.wantsStandIn u) = true := by kernel_rfl
        exact (show Tryd.prog.wantsStandIn t = false by simpa using List.all_eq_true.1 hall t hm)⟩)
    (by kernel_rfl)
end Go.Proofs.YtkonmgfgnppmlaaDoor.lawEscTakes
