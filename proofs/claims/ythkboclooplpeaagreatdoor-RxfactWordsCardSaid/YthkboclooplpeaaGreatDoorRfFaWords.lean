/- 'RxfactWords' answers true for every list of steps, every word and every place: Says, Ends and Nullable answer what the document says. Conditions: the listed table math/bits.deBruijn64tab holds what its initialiser lays (listed and tied). -/
import Derived.Test.YthkboclooplpeaaGreatDoorRf41
import Derived.Test.YthkboclooplpeaaGreatDoorRf42
namespace Go.Proofs.YthkboclooplpeaaGreatDoor
open Go.RowKit Go.Lib Go.Joins

set_option maxHeartbeats 8000000 in
set_option maxRecDepth 100000 in
theorem walkWords (a0 : Option Addr) (len0 cap0 : Nat) (L : List Stp) (s : ByteArray) (at1 : Int) (w : World) (h : SlX (fun b => b < w.heap.size) w (.slice a0 len0 cap0) L ∧ ∀ s ∈ L, s.fit) (_ : s.size ≤ maxLen) (_ : -9223372036854775808 ≤ at1 ∧ at1 ≤ 9223372036854775807) (ht : Tab w) :
    Calls Tryz.prog 3 #[.slice a0 len0 cap0, .string s, .int .i64 at1] w fun e w' => e = .returned (.bool true) ∧ Below w.heap.size w w' := by
  obtain ⟨hX, hfit⟩ := h
  have hwd : ∀ s ∈ L, s.wide := fun s hs => fit_wide (hfit s hs)
  have HF := hidden (few_calls hX)
  have HTB := hidden ht
  have HX := hidden (fun W (hb : Below w.heap.size w W) => hX.later hb)
  have HWD := hidden hwd
  clear ht hX hwd hfit
  by_cases h80 : L.length ≤ 80
  case neg =>
    rw [decide_eq_false h80] at HF
    clear h80
    go_enter Tryz.func3, Tryz.ntmps3
    go_wp2_with fail
    refine HF.out.mono ?_
    rintro e w1 ⟨rfl, rfl⟩
    go_wp2_with fail
    refine (knows_calls _ HTB.out).mono ?_
    rintro e w1 ⟨rfl, hb1⟩
    go_wp2
    go_ret
    exact ⟨rfl, hb1⟩
  rw [decide_eq_true h80] at HF
  clear h80
  by_cases h40 : 40 < s.size
  · have q0 : decide ((40 : Int) < s.size) = true := decide_eq_true (by omega)
    clear h40
    go_enter Tryz.func3, Tryz.ntmps3
    go_wp2_with fail
    refine HF.out.mono ?_
    rintro e w1 ⟨rfl, rfl⟩
    go_wp2_with fail
    refine (knows_calls _ HTB.out).mono ?_
    rintro e w1 ⟨rfl, hb1⟩
    go_wp2
    go_ret
    exact ⟨rfl, hb1⟩
  · have q0 : decide ((40 : Int) < s.size) = false := decide_eq_false (by omega)
    have hs2 : s.size ≤ 1000 := by omega
    have h1 := endsF_V HWD.out s 0 (Nat.zero_le _)
    rw [show ((0 : Nat) : Int) = 0 from rfl] at h1
    have HS := hidden (fun W (hb : Below w.heap.size w W) => Says_calls (s := s) (HX.out W hb) (fun b hb => hb) HWD.out (HTB.out.below hb) (by omega))
    rw [h1] at HS
    have HR := hidden (fun W (hb : Below w.heap.size w W) => rsays_calls (HX.out W hb) (fun b hb => hb) s hs2 HWD.out)
    have HE := hidden (fun W (hb : Below w.heap.size w W) => Ends_calls (s := s) (a := at1) (HX.out W hb) (fun b hb => hb) HWD.out (HTB.out.below hb) hs2)
    rw [endsA_V HWD.out s at1] at HE
    have HRE := hidden (fun W (hb : Below w.heap.size w W) => rends_calls (HX.out W hb) (fun b hb => hb) s hs2 HWD.out at1)
    have hlen := endsV_len L s at1
    have HN := hidden (fun W (hb : Below w.heap.size w W) => Nullable_calls (HX.out W hb) (fun b hb => hb) HWD.out)
    rw [null_says HWD.out] at HN
    have HR0 := hidden (fun W (hb : Below w.heap.size w W) => rsays_calls (HX.out W hb) (fun b hb => hb) ⟨#[]⟩ (by decide) HWD.out)
    have hlen2 : (endsV L (byN s) at1).length ≤ 100000 := by omega
    generalize lastIs (endsV L (byN s) 0) s.size = x at *
    generalize lastIs (endsV L (byN ⟨#[]⟩) 0) (ByteArray.size ⟨#[]⟩) = y at *
    generalize endsV L (byN s) at1 = l at *
    have hx : (x == x) = true := by simp
    have hy : (y == y) = true := by simp
    have hll : decide (l = l) = true := by simp
    clear h1 hlen h40
    go_enter Tryz.func3, Tryz.ntmps3
    go_wp2_with fail
    refine HF.out.mono ?_
    rintro e w1 ⟨rfl, rfl⟩
    go_wp2_with fail
    refine (HS.out _ (Below.refl _ _)).mono ?_
    rintro e w1 ⟨rfl, hb1⟩
    go_wp2_with fail
    refine (HR.out _ hb1).mono ?_
    rintro e w2 ⟨rfl, hb2⟩
    have HB2 := hidden (below_after hb1 hb2)
    clear hb1 hb2
    go_wp2_with fail
    refine (HE.out _ HB2.out).mono ?_
    rintro e w3 ⟨v, rfl, hv, hb3⟩
    have HB3 := hidden (below_after HB2.out hb3)
    obtain ⟨av, cv, rfl, _⟩ := id hv
    have HV := hidden hv
    clear hb3 hv
    go_wp2_with fail
    refine (HRE.out _ HB3.out).mono ?_
    rintro e w4 ⟨u, rfl, hu, hb4⟩
    have HB4 := hidden (below_after HB3.out hb4)
    have HV4 := hidden (HV.out.below hb4)
    have HU := hidden hu.reads
    obtain ⟨au, cu, rfl, _⟩ := id hu.reads
    clear hb4 hu
    go_wp2_with fail
    refine (same_ints HV4.out HU.out hlen2).mono ?_
    rintro e w5 ⟨rfl, hb5⟩
    have HB5 := hidden (below_after HB4.out hb5)
    clear hb5
    go_wp2_with fail
    refine (HN.out _ HB5.out).mono ?_
    rintro e w6 ⟨rfl, hb6⟩
    have HB6 := hidden (below_after HB5.out hb6)
    clear hb6
    go_wp2_with fail
    refine (HR0.out _ HB6.out).mono ?_
    rintro e w7 ⟨rfl, hb7⟩
    have HB7 := hidden (below_after HB6.out hb7)
    clear hb7
    go_wp2_with fail
    refine (knows_calls _ (HTB.out.below HB7.out)).mono ?_
    rintro e w8 ⟨rfl, hb8⟩
    go_wp2
    go_ret
    exact ⟨rfl, below_after HB7.out hb8⟩
namespace lawRxfactWords
open Go.ChangeShapes Go.WideShapes Go.ChangeAt Go.RowKit Go.Deep
open Go.ChangeMaps (open_string shut_string)

set_option maxRecDepth 100000 in
theorem lifted (os : Os) (started : os.Started) (H : Type) (enc : TypeId × Value → H) :
    ReturnsInHanded {} Tryz.checked os 3 .any (fun w args => (Rows.rxfactWordsSpec.pre enc Tryz.prog Tryz.f3 Rows.rxfactWordsRow.domain false w args ∧ laidMetH Tryz.prog [("math/bits.deBruijn64tab", Rows.laid_math_bits_deBruijn64tab)] w) ∧ sizedMet enc Tryz.prog Tryz.f3 (OpenSpec.ofChange Rows.rxfactWordsSpec) false w args)
      (Rows.rxfactWordsSpec.post enc Tryz.prog Tryz.f3 false true false false) := by
  refine returnsInHanded_of_change_and (C := Tryz.checked) (X := fun w _ => laidMetH Tryz.prog [("math/bits.deBruijn64tab", Rows.laid_math_bits_deBruijn64tab)] w) (fun _ _ _ hh h => h.of_heap hh) own started (by kernel_rfl) Tryz.func3
    (ChangeSpec.witness_shaped (enc := enc) (C := Tryz.checked) (os := os) (X := fun w _ => laidMetH Tryz.prog [("math/bits.deBruijn64tab", Rows.laid_math_bits_deBruijn64tab)] w) false (World.laidAll Tryz.prog os [("math/bits.deBruijn64tab", Rows.laid_math_bits_deBruijn64tab)]) #[.slice none 0 0, .string ⟨#[]⟩, .int .i64 0] 8 (World.laidAll_os _ _ _)
      (World.shaped_of_ZipB (by kernel_rfl) (by kernel_rfl)) (by kernel_rfl) (by kernel_rfl) (by kernel_rfl)
      (by rw [MakeChecks.laidMetH_plain _ _ _ (by kernel_rfl)]; exact laidMet_laidAll _ (by kernel_rfl) (by kernel_rfl))) ?_
  intro W base args ds gs before hval0 hW hcnd _ hL _
  have hval : ∀ (j : Nat) t v, Tryz.f3.params[j]? = some t → args[j]? = some v → Value.okWide Tryz.prog W .any base t v := hval0
  have hW' : DataW.Whole enc Tryz.prog Tryz.f3.params.toList Rows.rxfactWordsSpec.vars false W args.toList ds gs before := hW
  obtain ⟨p, q, hA0, hV, rfl, hfz, hnd⟩ := hW
  have hA : DataW.TrodAll enc Tryz.prog W 0 (fun _ => true) true Tryz.f3.params.toList args.toList ds p := hA0
  have ht : Tab W := of_laid (by kernel_rfl) hL
  rw [Tryz.params3] at hA hval
  obtain ⟨v0, vs0, d0, ds0, p0, q0, hargs, hd0, hp0, h0, r0⟩ := trodAll_cons hA
  obtain ⟨v1, vs1, d1, ds1, p1, q1, rfl, hd1, hp1, h1, r1⟩ := trodAll_cons r0
  obtain ⟨v2, vs2, d2, ds2, p2, q2, rfl, hd2, hp2, h2, r2⟩ := trodAll_cons r1
  obtain ⟨rfl, _, _⟩ := trodAll_nil r2
  obtain rfl : args = #[v0, v1, v2] := by cases args; simp_all
  obtain ⟨a0, len0, cap0, rfl⟩ := okWide_slice Tryz.underlying22 (hval 0 22 v0 rfl rfl)
  obtain ⟨z0, w0⟩ := open_rx h0
  obtain ⟨a1, rfl, _, _, w1⟩ := open_string Tryz.underlying9 (hval 1 9 v1 rfl rfl) h1
  obtain ⟨a2, rfl, _, _, w2⟩ := open_int Tryz.underlying3 (hval 2 3 v2 rfl rfl) h2
  refine (walkWords a0 len0 cap0 z0 a1 a2 W w0 w1 (wf_i64 w2) ht).mono fun e W' ⟨he, hb⟩ => ⟨_, he, ends_true hW' rfl (by kernel_rfl) ?_ (by kernel_rfl) hb⟩
  intro xs hxs
  match xs, hxs with
  | [_, _, _], _ => rfl

theorem proved : Rows.RxfactWordsSaid :=
  OpenClaim.holds_of_wide 3 Tryz.f3 rfl rfl rfl rfl rfl rfl rfl ⟨rfl, rfl, rfl, rfl, rfl⟩ rfl rfl rfl rfl rfl (by kernel_rfl) Tryz.func3 (by kernel_rfl)
    (of_decide_eq_true (by kernel_rfl)) (by unfold Func.isWrapper; first | (rw [if_pos (by decide +kernel)]; kernel_rfl) | (rw [if_neg (by decide +kernel)]; exact ⟨rfl, rfl⟩))
    (fun os started H enc _ => lifted os started H enc)

/-- the card: the row, and what it lists tied to the program's text -/
theorem card : Rows.RxfactWordsCardSaid :=
  Claim7.holds_tied_plain_at .later [] [.data] true (true, "caf4bdf57563e5690fd5054733d0bba01abbd8688f1d404e6c089180ab3b60b0") false
    proved (fun _ h => by cases h) (by kernel_rfl) (fun _ h => by cases h) rxfactWords_row_tie rfl ⟨rfl, rfl⟩ (by kernel_rfl) rfl
    (fun f fn hf hfn => by
      obtain rfl : f = 3 := Option.some.inj ((show Tryz.prog.funcNamed "facsimile/facsimilelaw09.RxfactWords" = some 3 by kernel_rfl).symm.trans hf) |>.symm
      obtain rfl : fn = Tryz.f3 := (Option.some.inj (Tryz.func3.symm.trans hfn)).symm
      exact ⟨by kernel_rfl, fun j t ht => by
        rw [Tryz.params3] at ht
        have hm : t ∈ [22, 9, 3] := by simpa using Array.mem_of_getElem? ht
        have hall : ([22, 9, 3].all fun u => !Tryz.prog.wantsStandIn u) = true := by kernel_rfl
        exact (show Tryz.prog.wantsStandIn t = false by simpa using List.all_eq_true.1 hall t hm)⟩)
    (by kernel_rfl)

end lawRxfactWords
end Go.Proofs.YthkboclooplpeaaGreatDoor
