/- 'FuseTells' answers true for every list of tokens: the spots of any tokens are the document's, and they are right. Conditions: the listed table math/bits.deBruijn64tab holds what its initialiser lays (listed and tied). -/
import Derived.Test.YtbokhofdgdcpdaaDoorFu35
namespace Go.Proofs.YtbokhofdgdcpdaaDoor
open Go.RowKit Go.Lib Go.Joins
attribute [local go_sem] evalR_tmp evalR_const evalR_global evalR_func
def LTe (a0 : Option Addr) (len0 cap0 : Nat) (T : List (List Stp)) (vs vo vl vf v1 : Value) : List (Value → World → Prop) := [
  Is (.agg #[vs, vo, vl, vf, v1]), Is (.slice a0 len0 cap0), Rn (fuseM T), isTrue, isTrue, Is (.agg #[vs, vo, vl, vf, v1]), isTrue, isTrue, isTrue, isTrue, isTrue, isTrue]
set_option maxHeartbeats 8000000 in
set_option maxRecDepth 100000 in
theorem walkFuTells (a0 : Option Addr) (len0 cap0 : Nat) (T : List (List Stp)) (w : World) (h : Toks (fun b => b < w.heap.size) w (.slice a0 len0 cap0) T ∧ ∀ i, ∀ s ∈ T.getD i [], s.fit) (ht : Tab w) :
    Calls Tryd.prog 6 #[.slice a0 len0 cap0] w fun e w' => e = .returned (.bool true) ∧ Below w.heap.size w w' := by
  obtain ⟨hT, hfit⟩ := h
  have hwd : ∀ i, ∀ s ∈ T.getD i [], s.wide := fun i s hs => fit_wide (hfit i s hs)
  have HT := hidden ht
  have HG := hidden (show 0 < w.heap.size from cell_lt (ht 0 (by decide)))
  have HV := hidden hT
  have HF := hidden (Few_calls hT)
  by_cases hfew : fewB T = true
  case neg =>
    have hfew' : fewB T = false := by simpa using hfew
    rw [hfew'] at HF
    clear hT hfit hwd ht hfew hfew'
    go_enter Tryd.func6, Tryd.ntmps6
    go_wp2_with fail
    refine HF.out.mono ?_
    rintro e w1 ⟨rfl, rfl⟩
    go_wp2_with fail
    refine (knows12_calls _ HT.out).mono ?_
    rintro e w4 ⟨rfl, hb4⟩
    go_wp2
    go_ret
    exact ⟨rfl, hb4⟩
  rw [hfew] at HF
  have HFT := hidden (few_yes hfew hwd)
  have HRT := hidden (fuseM_right HFT.out)
  have HLN := hidden (fuseM_len HFT.out)
  clear hT hfit hwd ht hfew
  go_enter Tryd.func6, Tryd.ntmps6
  go_wp2_with fail
  refine HF.out.mono ?_
  rintro e w1 ⟨rfl, rfl⟩
  go_wp2_with fail
  refine (Fuse_calls HV.out (fun b hb => hb) HFT.out HT.out HG.out).mono ?_
  rintro e w2 ⟨vs, vo, vl, vf, v1, rfl, hr2, hb2⟩
  have HB2 := hidden hb2
  have HR2 := hidden hr2
  clear hr2 hb2
  unfold netV
  have HO := hidden (heap_alloc_new w2 (.cells #[.slice none 0 0, .slice none 0 0, .slice none 0 0, .slice none 0 0, .slice none 0 0] 48))
  dsimp only
  go_wp2_with (refine store_row (B := w2.heap.size) (cs := #[vs, vo, vl, vf, v1]) (old := #[.slice none 0 0, .slice none 0 0, .slice none 0 0, .slice none 0 0, .slice none 0 0]) (t := 48) rfl (ty := 48) (x := .tmp 3) (y := .tmp 9) rfl rfl rfl HO.out 5 (by kernel_rfl) rfl rfl HR2.out.one ?_; intro w3 hw3 hg3; have HL3 := hidden hw3; have HG3 := hidden hg3; clear hw3 hg3)
  have hB3 : Below w2.heap.size w2 w3 := ((Below.refl w2.heap.size w2).alloc (Nat.le_refl _) _).grown HG3.out (by simp) (fun j e => by simp only [Option.some.injEq] at e; omega)
  have hB4 := below_after HB2.out hB3
  have HK := hidden (KV.mk (w0 := w) (n0 := w2.heap.size) hB4 HL3.out (HR2.out.later hB3) (HV.out.later hB4) (HT.out.below hB4))
  obtain ⟨n0, hn0⟩ : ∃ n0, n0 = w2.heap.size := ⟨_, rfl⟩
  rw [← hn0] at HK ⊢
  clear hB3 hB4 HO HL3 HG3 hn0
  refine wp_region_steps (typ (LTe a0 len0 cap0 T vs vo vl vf v1)) (KV w n0 vs vo vl vf v1 (fuseM T) (.slice a0 len0 cap0) T) (by kernel_rfl) (by kernel_rfl) (by kernel_rfl) (by kernel_rfl) ?mono ?start [4, 8] (by kernel_rfl) ?guards ?step ?fin
  case mono =>
    refine typ_mono ?_
    simp only [LTe, List.forall_mem_cons]
    repeat' (first | exact is_mono _ | exact rn_mono _ | (intro p hp; cases hp; done) | refine And.intro ?_ ?_)
  case start => exact HK.out.more (Below.refl _ _).drew
  case guards =>
    intro g hg v w h
    simp at hg
    rcases hg with rfl | rfl <;> exact h
  case fin =>
    intro a w1 hs hv hW
    rename_i Q' K hK
    refine hK a w1 ?_
    have h0 : a.tmps.getD 2 undef = .bool true := hv 11 2 (by kernel_rfl)
    have hd := hs.defers
    go_wp2
    refine bodyPost_ret (results_tmp rfl _ _ _) hd ?_
    rw [h0]
    exact ⟨rfl, hW.b⟩
  case step =>
    refine ⟨?_, ?_, ?_, ?_, ?_, ?_, ?_, ?_, ?_, ?_, ?_, ?_, trivial⟩
    · intro ρ w1 hF hW
      have HW := hidden hW
      clear hW
      have e3 : ρ 3 = .pointer (some ⟨n0, 0, none⟩) := hF 3 (by decide)
      clear hF
      obtain ⟨k0, k1, k2, k3, k4⟩ := HW.out.cells
      unfold Does
      go_simp
      exact ⟨rfl, HW.out, Below.refl _ _⟩
    · intro ρ w1 hF hW
      have HW := hidden hW
      clear hW
      have e0 : ρ 0 = .slice a0 len0 cap0 := hF 0 (by decide)
      clear hF
      unfold Does
      go_simp
      exact ⟨rfl, HW.out, Below.refl _ _⟩
    · intro ρ w1 hF hW
      have HW := hidden hW
      clear hW
      have e11 : ρ 11 = .slice a0 len0 cap0 := hF 11 (by decide)
      clear hF
      unfold Does
      go_simp
      refine (rFuse_calls HW.out.t (fun b hb => hb) HFT.out).mono ?_
      rintro e w2 ⟨us, uo, ul, uf, u1, rfl, hr, hb⟩
      exact ⟨_, rfl, ⟨us, uo, ul, uf, u1, rfl, hr⟩, HW.out.more hb, hb⟩
    · intro ρ w1 hF hW
      have HW := hidden hW
      clear hW
      have e10 : ρ 10 = .agg #[vs, vo, vl, vf, v1] := hF 10 (by decide)
      obtain ⟨us, uo, ul, uf, u1, e12, h12⟩ : ∃ us uo ul uf u1, ρ 12 = .agg #[us, uo, ul, uf, u1] ∧ RdNet w1.heap.size w1 us uo ul uf u1 (fuseM T) := hF 12 (by decide)
      clear hF
      unfold Does
      go_simp
      refine (rsame12_calls HW.out.r h12 HLN.out).mono ?_
      rintro e w2 ⟨rfl, hb⟩
      exact ⟨_, rfl, rfl, HW.out.more hb, hb⟩
    · intro ρ w1 hF hW
      have HW := hidden hW
      clear hW
      have e13 : ρ 13 = .bool true := hF 13 (by decide)
      clear hF
      unfold Does
      go_simp
      exact ⟨rfl, HW.out, Below.refl _ _⟩
    · intro ρ w1 hF hW
      have HW := hidden hW
      clear hW
      have e3 : ρ 3 = .pointer (some ⟨n0, 0, none⟩) := hF 3 (by decide)
      clear hF
      obtain ⟨k0, k1, k2, k3, k4⟩ := HW.out.cells
      unfold Does
      go_simp
      exact ⟨rfl, HW.out, Below.refl _ _⟩
    · intro ρ w1 hF hW
      have HW := hidden hW
      clear hW
      have e15 : ρ 15 = .agg #[vs, vo, vl, vf, v1] := hF 15 (by decide)
      clear hF
      unfold Does
      go_simp
      have HRR := hidden (right12_calls HW.out.r)
      rw [HRT.out] at HRR
      refine HRR.out.mono ?_
      rintro e w2 ⟨rfl, hb⟩
      exact ⟨_, rfl, rfl, HW.out.more hb, hb⟩
    · intro ρ w1 hF hW
      have HW := hidden hW
      clear hW
      have e14 : ρ 14 = .bool true := hF 14 (by decide)
      have e16 : ρ 16 = .bool true := hF 16 (by decide)
      clear hF
      unfold Does
      go_simp
      exact ⟨rfl, HW.out, Below.refl _ _⟩
    · intro ρ w1 hF hW
      have HW := hidden hW
      clear hW
      have e17 : ρ 17 = .bool true := hF 17 (by decide)
      clear hF
      unfold Does
      go_simp
      exact ⟨rfl, HW.out, Below.refl _ _⟩
    · intro ρ w1 hF hW
      have HW := hidden hW
      clear hW
      clear hF
      unfold Does
      go_simp
      refine (knows12_calls _ HW.out.tab).mono ?_
      rintro e w2 ⟨rfl, hb⟩
      exact ⟨_, rfl, rfl, HW.out.more hb, hb⟩
    · intro ρ w1 hF hW
      have HW := hidden hW
      clear hW
      have e18 : ρ 18 = .bool true := hF 18 (by decide)
      have e19 : ρ 19 = .bool true := hF 19 (by decide)
      clear hF
      unfold Does
      go_simp
      exact ⟨rfl, HW.out, Below.refl _ _⟩
    · intro ρ w1 hF hW
      have HW := hidden hW
      clear hW
      have e20 : ρ 20 = .bool true := hF 20 (by decide)
      clear hF
      unfold Does
      go_simp
      exact ⟨rfl, HW.out, Below.refl _ _⟩
namespace lawFuseTells
open Go.ChangeShapes Go.WideShapes Go.ChangeAt Go.RowKit Go.Deep
open Go.ChangeMaps (open_string shut_string)

set_option maxRecDepth 100000 in
theorem lifted (os : Os) (started : os.Started) (H : Type) (enc : TypeId × Value → H) :
    ReturnsInHanded {} Tryd.checked os 6 .any (fun w args => (Rows.fuseTellsSpec.pre enc Tryd.prog Tryd.f6 Rows.fuseTellsRow.domain false w args ∧ laidMetH Tryd.prog [("math/bits.deBruijn64tab", Rows.laid_math_bits_deBruijn64tab)] w) ∧ sizedMet enc Tryd.prog Tryd.f6 (OpenSpec.ofChange Rows.fuseTellsSpec) false w args)
      (Rows.fuseTellsSpec.post enc Tryd.prog Tryd.f6 false true false false) := by
  refine returnsInHanded_of_change_and (C := Tryd.checked) (X := fun w _ => laidMetH Tryd.prog [("math/bits.deBruijn64tab", Rows.laid_math_bits_deBruijn64tab)] w) (fun _ _ _ hh h => h.of_heap hh) own started (by kernel_rfl) Tryd.func6
    (ChangeSpec.witness_shaped (enc := enc) (C := Tryd.checked) (os := os) (X := fun w _ => laidMetH Tryd.prog [("math/bits.deBruijn64tab", Rows.laid_math_bits_deBruijn64tab)] w) false (World.laidAll Tryd.prog os [("math/bits.deBruijn64tab", Rows.laid_math_bits_deBruijn64tab)]) #[.slice none 0 0] 8 (World.laidAll_os _ _ _)
      (World.shaped_of_ZipB (by kernel_rfl) (by kernel_rfl)) (by kernel_rfl) (by kernel_rfl) (by kernel_rfl)
      (by rw [MakeChecks.laidMetH_plain _ _ _ (by kernel_rfl)]; exact laidMet_laidAll _ (by kernel_rfl) (by kernel_rfl))) ?_
  intro W base args ds gs before hval0 hW hcnd _ hL _
  have hval : ∀ (j : Nat) t v, Tryd.f6.params[j]? = some t → args[j]? = some v → Value.okWide Tryd.prog W .any base t v := hval0
  have hW' : DataW.Whole enc Tryd.prog Tryd.f6.params.toList Rows.fuseTellsSpec.vars false W args.toList ds gs before := hW
  obtain ⟨p, q, hA0, hV, rfl, hfz, hnd⟩ := hW
  have hA : DataW.TrodAll enc Tryd.prog W 0 (fun _ => true) true Tryd.f6.params.toList args.toList ds p := hA0
  have ht : Tab W := of_laid (by kernel_rfl) hL
  rw [Tryd.params6] at hA hval
  obtain ⟨v0, vs0, d0, ds0, p0, q0, hargs, hd0, hp0, h0, r0⟩ := trodAll_cons hA
  obtain ⟨rfl, _, _⟩ := trodAll_nil r0
  obtain rfl : args = #[v0] := by cases args; simp_all
  obtain ⟨a0, len0, cap0, rfl⟩ := okWide_slice Tryd.underlying43 (hval 0 43 v0 rfl rfl)
  obtain ⟨z0, w0⟩ := open_toks h0
  refine (walkFuTells a0 len0 cap0 z0 W w0 ht).mono fun e W' ⟨he, hb⟩ => ⟨_, he, ends_true hW' rfl (by kernel_rfl) ?_ (by kernel_rfl) hb⟩
  intro xs hxs
  match xs, hxs with
  | [_], _ => rfl

theorem proved : Rows.FuseTellsSaid :=
  OpenClaim.holds_of_wide 6 Tryd.f6 rfl rfl rfl rfl rfl rfl rfl ⟨rfl, rfl, rfl, rfl, rfl⟩ rfl rfl rfl rfl rfl (by kernel_rfl) Tryd.func6 (by kernel_rfl)
    (of_decide_eq_true (by kernel_rfl)) (by unfold Func.isWrapper; first | (rw [if_pos (by decide +kernel)]; kernel_rfl) | (rw [if_neg (by decide +kernel)]; exact ⟨rfl, rfl⟩))
    (fun os started H enc _ => lifted os started H enc)

/-- the card: the row, and what it lists tied to the program's text -/
theorem card : Rows.FuseTellsCardSaid :=
  Claim7.holds_tied_plain_at .later [] [.data] true (true, "2d7a7cdab9648aa92af065527db2f9159c0a253275d1700557e608e94f046fb4") false
    proved (fun _ h => by cases h) (by kernel_rfl) (fun _ h => by cases h) fuseTells_row_tie rfl ⟨rfl, rfl⟩ (by kernel_rfl) rfl
    (fun f fn hf hfn => by
      obtain rfl : f = 6 := Option.some.inj ((show Tryd.prog.funcNamed "facsimile/facsimilelaw12.FuseTells" = some 6 by kernel_rfl).symm.trans hf) |>.symm
      obtain rfl : fn = Tryd.f6 := (Option.some.inj (Tryd.func6.symm.trans hfn)).symm
      exact ⟨by kernel_rfl, fun j t ht => by
        rw [Tryd.params6] at ht
        have hm : t ∈ [43] := by simpa using Array.mem_of_getElem? ht
        have hall : ([43].all fun u => !Tryd.prog.wantsStandIn u) = true := by kernel_rfl
        exact (show Tryd.prog.wantsStandIn t = false by simpa using List.all_eq_true.1 hall t hm)⟩)
    (by kernel_rfl)

end lawFuseTells
end Go.Proofs.YtbokhofdgdcpdaaDoor
