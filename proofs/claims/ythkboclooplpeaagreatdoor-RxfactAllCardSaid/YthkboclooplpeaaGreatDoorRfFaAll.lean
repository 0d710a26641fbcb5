/- 'RxfactAll' answers true for every list of steps: Shortest, Longest, First and Used answer what the document says. Conditions: the listed table math/bits.deBruijn64tab holds what its initialiser lays (listed and tied). -/
import Derived.Test.YthkboclooplpeaaGreatDoorRf41
import Derived.Test.YthkboclooplpeaaGreatDoorRf42
import Derived.Test.YthkboclooplpeaaGreatDoorRf43
namespace Go.Proofs.YthkboclooplpeaaGreatDoor
open Go.RowKit Go.Lib Go.Joins

set_option maxHeartbeats 8000000 in
set_option maxRecDepth 100000 in
theorem walkAll (a0 : Option Addr) (len0 cap0 : Nat) (L : List Stp) (w : World) (h : SlX (fun b => b < w.heap.size) w (.slice a0 len0 cap0) L ∧ ∀ s ∈ L, s.fit) (ht : Tab w) :
    Calls Tryz.prog 4 #[.slice a0 len0 cap0] w fun e w' => e = .returned (.bool true) ∧ Below w.heap.size w w' := by
  obtain ⟨hX, hfit⟩ := h
  have hwd : ∀ s ∈ L, s.wide := fun s hs => fit_wide (hfit s hs)
  have HF := hidden (few_calls hX)
  have HTB := hidden ht
  have HX := hidden (fun W (hb : Below w.heap.size w W) => hX.later hb)
  have HWD := hidden hwd
  clear ht hX hwd hfit
  by_cases h80 : L.length ≤ 80
  case neg =>
    rw [decide_eq_false h80] at HF
    clear h80
    go_enter Tryz.func4, Tryz.ntmps4
    go_wp2_with fail
    refine HF.out.mono ?_
    rintro e w1 ⟨rfl, rfl⟩
    go_wp2_with fail
    refine (knows_calls _ HTB.out).mono ?_
    rintro e w1 ⟨rfl, hb1⟩
    go_wp2
    go_ret
    exact ⟨rfl, hb1⟩
  rw [decide_eq_true h80] at HF
  clear h80
  have HS := hidden (fun W (hb : Below w.heap.size w W) => Shortest_calls (HX.out W hb) (fun b hb => hb) HWD.out)
  have HRS := hidden (fun W (hb : Below w.heap.size w W) => rShortest_calls (HX.out W hb) (fun b hb => hb) HWD.out)
  have HL := hidden (fun W (hb : Below w.heap.size w W) => Longest_calls (HX.out W hb) (fun b hb => hb) HWD.out)
  have HRL := hidden (fun W (hb : Below w.heap.size w W) => rLongest_calls (HX.out W hb) (fun b hb => hb) HWD.out)
  have HI := hidden (fun W (hb : Below w.heap.size w W) => First_calls (HX.out W hb) (fun b hb => hb) HWD.out)
  have HRI := hidden (fun W (hb : Below w.heap.size w W) => rFirst_calls (HX.out W hb) (fun b hb => hb) HWD.out)
  have HU := hidden (fun W (hb : Below w.heap.size w W) => Used_calls (HX.out W hb) (fun b hb => hb) HWD.out)
  have HRU := hidden (fun W (hb : Below w.heap.size w W) => rUsed_calls (HX.out W hb) (fun b hb => hb) HWD.out)
  have hsame : sameSet (letF L).first (if (measV L).2 = 0 then rfiE (treeE L) else fNone) = true ∧ sameSet (letF L).used (if (measV L).2 = 0 then rusE (treeE L) else fNone) = true := by
    unfold letF
    by_cases hz : (measV L).2 = 0
    · rw [if_pos hz, if_pos hz, if_pos hz]
      have hr := fun n hn => rfi_eq (treeE L) (tree_of (meas_expr hz).2 HWD.out).2.1 n hn
      exact ⟨same_of fun n hn => (hr n hn).1, same_of fun n hn => (hr n hn).2⟩
    · rw [if_neg hz, if_neg hz, if_neg hz]
      exact ⟨same_of fun _ _ => rfl, same_of fun _ _ => rfl⟩
  have hq1 := fun W => (eq_sets W (letF L).first (if (measV L).2 = 0 then rfiE (treeE L) else fNone)).trans (by rw [hsame.1])
  have hq2 := fun W => (eq_sets W (letF L).used (if (measV L).2 = 0 then rusE (treeE L) else fNone)).trans (by rw [hsame.2])
  generalize (letF L).first = F1 at *
  generalize (letF L).used = F2 at *
  generalize (if (measV L).2 = 0 then rfiE (treeE L) else fNone) = F3 at *
  generalize (if (measV L).2 = 0 then rusE (treeE L) else fNone) = F4 at *
  generalize (if (measV L).2 = 0 then shE (treeE L) else -1) = x at *
  generalize (if (measV L).2 = 0 then loE (treeE L) else -1) = y at *
  have hx : (x == x) = true := by simp
  have hy : (y == y) = true := by simp
  clear hsame
  go_enter Tryz.func4, Tryz.ntmps4
  go_wp2_with fail
  refine HF.out.mono ?_
  rintro e w1 ⟨rfl, rfl⟩
  go_wp2_with fail
  refine (HS.out _ (Below.refl _ _)).mono ?_
  rintro e w1 ⟨rfl, hb1⟩
  have HB1 := hidden hb1
  clear hb1
  go_wp2_with fail
  refine (HRS.out _ HB1.out).mono ?_
  rintro e w2 ⟨rfl, rfl⟩
  go_wp2_with fail
  refine (HL.out _ HB1.out).mono ?_
  rintro e w3 ⟨rfl, hb3⟩
  have HB3 := hidden (below_after HB1.out hb3)
  clear hb3
  go_wp2_with fail
  refine (HRL.out _ HB3.out).mono ?_
  rintro e w4 ⟨rfl, rfl⟩
  go_wp2_with fail
  refine (HI.out _ HB3.out).mono ?_
  rintro e w5 ⟨rfl, hb5⟩
  have HB5 := hidden (below_after HB3.out hb5)
  clear hb5
  go_wp2_with fail
  refine (HRI.out _ HB5.out).mono ?_
  rintro e w6 ⟨rfl, hb6⟩
  have HB6 := hidden (below_after HB5.out hb6)
  clear hb6
  go_wp2_with fail
  refine (HU.out _ HB6.out).mono ?_
  rintro e w7 ⟨rfl, hb7⟩
  have HB7 := hidden (below_after HB6.out hb7)
  clear hb7
  go_wp2_with fail
  refine (HRU.out _ HB7.out).mono ?_
  rintro e w8 ⟨rfl, hb8⟩
  have HB8 := hidden (below_after HB7.out hb8)
  clear hb8
  go_wp2_with fail
  refine (knows_calls _ (HTB.out.below HB8.out)).mono ?_
  rintro e w9 ⟨rfl, hb9⟩
  go_wp2
  go_ret
  exact ⟨rfl, below_after HB8.out hb9⟩
namespace lawRxfactAll
open Go.ChangeShapes Go.WideShapes Go.ChangeAt Go.RowKit Go.Deep

set_option maxRecDepth 100000 in
theorem lifted (os : Os) (started : os.Started) (H : Type) (enc : TypeId × Value → H) :
    ReturnsInHanded {} Tryz.checked os 4 .any (fun w args => (Rows.rxfactAllSpec.pre enc Tryz.prog Tryz.f4 Rows.rxfactAllRow.domain false w args ∧ laidMetH Tryz.prog [("math/bits.deBruijn64tab", Rows.laid_math_bits_deBruijn64tab)] w) ∧ sizedMet enc Tryz.prog Tryz.f4 (OpenSpec.ofChange Rows.rxfactAllSpec) false w args)
      (Rows.rxfactAllSpec.post enc Tryz.prog Tryz.f4 false true false false) := by
  refine returnsInHanded_of_change_and (C := Tryz.checked) (X := fun w _ => laidMetH Tryz.prog [("math/bits.deBruijn64tab", Rows.laid_math_bits_deBruijn64tab)] w) (fun _ _ _ hh h => h.of_heap hh) own started (by kernel_rfl) Tryz.func4
    (ChangeSpec.witness_shaped (enc := enc) (C := Tryz.checked) (os := os) (X := fun w _ => laidMetH Tryz.prog [("math/bits.deBruijn64tab", Rows.laid_math_bits_deBruijn64tab)] w) false (World.laidAll Tryz.prog os [("math/bits.deBruijn64tab", Rows.laid_math_bits_deBruijn64tab)]) #[.slice none 0 0] 8 (World.laidAll_os _ _ _)
      (World.shaped_of_ZipB (by kernel_rfl) (by kernel_rfl)) (by kernel_rfl) (by kernel_rfl) (by kernel_rfl)
      (by rw [MakeChecks.laidMetH_plain _ _ _ (by kernel_rfl)]; exact laidMet_laidAll _ (by kernel_rfl) (by kernel_rfl))) ?_
  intro W base args ds gs before hval0 hW hcnd _ hL _
  have hval : ∀ (j : Nat) t v, Tryz.f4.params[j]? = some t → args[j]? = some v → Value.okWide Tryz.prog W .any base t v := hval0
  have hW' : DataW.Whole enc Tryz.prog Tryz.f4.params.toList Rows.rxfactAllSpec.vars false W args.toList ds gs before := hW
  obtain ⟨p, q, hA0, hV, rfl, hfz, hnd⟩ := hW
  have hA : DataW.TrodAll enc Tryz.prog W 0 (fun _ => true) true Tryz.f4.params.toList args.toList ds p := hA0
  have ht : Tab W := of_laid (by kernel_rfl) hL
  rw [Tryz.params4] at hA hval
  obtain ⟨v0, vs0, d0, ds0, p0, q0, hargs, hd0, hp0, h0, r0⟩ := trodAll_cons hA
  obtain ⟨rfl, _, _⟩ := trodAll_nil r0
  obtain rfl : args = #[v0] := by cases args; simp_all
  obtain ⟨a0, len0, cap0, rfl⟩ := okWide_slice Tryz.underlying22 (hval 0 22 v0 rfl rfl)
  obtain ⟨z0, w0⟩ := open_rx h0
  refine (walkAll a0 len0 cap0 z0 W w0 ht).mono fun e W' ⟨he, hb⟩ => ⟨_, he, ends_true hW' rfl (by kernel_rfl) ?_ (by kernel_rfl) hb⟩
  intro xs hxs
  match xs, hxs with
  | [_], _ => rfl

theorem proved : Rows.RxfactAllSaid :=
  OpenClaim.holds_of_wide 4 Tryz.f4 rfl rfl rfl rfl rfl rfl rfl ⟨rfl, rfl, rfl, rfl, rfl⟩ rfl rfl rfl rfl rfl (by kernel_rfl) Tryz.func4 (by kernel_rfl)
    (of_decide_eq_true (by kernel_rfl)) (by unfold Func.isWrapper; first | (rw [if_pos (by decide +kernel)]; kernel_rfl) | (rw [if_neg (by decide +kernel)]; exact ⟨rfl, rfl⟩))
    (fun os started H enc _ => lifted os started H enc)

/-- the card: the row, and what it lists tied to the program's text -/
theorem card : Rows.RxfactAllCardSaid :=
  Claim7.holds_tied_plain_at .later [] [.data] true (true, "caf4bdf57563e5690fd5054733d0bba01abbd8688f1d404e6c089180ab3b60b0") false
    proved (fun _ h => by cases h) (by kernel_rfl) (fun _ h => by cases h) rxfactAll_row_tie rfl ⟨rfl, rfl⟩ (by kernel_rfl) rfl
    (fun f fn hf hfn => by
      obtain rfl : f = 4 := Option.some.inj ((show Tryz.prog.funcNamed "facsimile/facsimilelaw09.RxfactAll" = some 4 by kernel_rfl).symm.trans hf) |>.symm
      obtain rfl : fn = Tryz.f4 := (Option.some.inj (Tryz.func4.symm.trans hfn)).symm
      exact ⟨by kernel_rfl, fun j t ht => by
        rw [Tryz.params4] at ht
        have hm : t ∈ [22] := by simpa using Array.mem_of_getElem? ht
        have hall : ([22].all fun u => !Tryz.prog.wantsStandIn u) = true := by kernel_rfl
        exact (show Tryz.prog.wantsStandIn t = false by simpa using List.all_eq_true.1 hall t hm)⟩)
    (by kernel_rfl)

end lawRxfactAll
end Go.Proofs.YthkboclooplpeaaGreatDoor
