/- 'ManyOf' answers true for every two lists of numbers: Of, Right, Same and Key answer what the document says. Conditions: the three listed tables (of math/bits, and of strconv's powers of ten) hold what their initialisers lay (listed and tied). -/
import Derived.Test.YtbnohmbdfcapkaaDoorMaKey
import Derived.Test.YtbnohmbdfcapkaaDoorTie
import Derived.Test.YtbnohmbdfcapkaaDoorCards
import Derived.Laws.IdiomArrays
import Derived.Deep.Slices
import Derived.LaidMore
import Derived.Lay
import Derived.Lib.LaidTab
import Derived.SevenTiedAt
import Derived.Stop.Joined
namespace Go.Proofs.YtbnohmbdfcapkaaDoor
open Go.ChangeShapes Go.WideShapes Go.ChangeAt Go.RowKit Go.Deep Go.Joins
theorem of_laid {W : World} {d1 d2 d3 : DataW Unit} (h1 : d1 = Rows.laid_math_bits_deBruijn32tab) (h2 : d2 = Rows.laid_math_bits_deBruijn64tab) (h3 : d3 = Lib.tabData .u64 Lib.pow10Tab) (h : laidMetH Tryd.prog [("math/bits.deBruijn32tab", d1), ("math/bits.deBruijn64tab", d2), ("internal/strconv.uint64pow10", d3)] W) : Pow W := by
  subst h1 h2 h3
  rw [MakeChecks.laidMetH_plain _ _ _ (by kernel_rfl)] at h
  obtain ⟨ps, ⟨_, _, _, _, _, _, _, _, _, _, ⟨_, _, _, _, _, _, _, _, _, _, ⟨g, t, cs, fuel, p, q, hg, ht, hv, hd, _, _⟩, _⟩, _⟩, _, _⟩ := h
  obtain rfl := Option.some.inj ((show Tryd.prog.globalNamed "internal/strconv.uint64pow10" = some 0 by kernel_rfl).symm.trans hg)
  obtain rfl := Option.some.inj ((show (Tryd.prog.globals[0]?).map (·.type) = some 74 by kernel_rfl).symm.trans ht)
  have e := Lib.cells_of_tab Tryd.underlying74 Tryd.underlying55 (by kernel_rfl) (by kernel_rfl) hd
  unfold Pow Lib.TabIs
  rw [hv, ← e]
end Go.Proofs.YtbnohmbdfcapkaaDoor
namespace Go.Proofs.YtbnohmbdfcapkaaDoor.lawManyOf
open Go.ChangeShapes Go.WideShapes Go.ChangeAt Go.RowKit
open Go.ChangeMaps (open_string shut_string)

theorem same_self (l : List Int) : decide (l = l) = true := by simp
theorem keys_eq (l m : List Int) : (((⟨(keyV l).toArray⟩ : ByteArray).toList == (⟨(keyV m).toArray⟩ : ByteArray).toList) == decide (l = m)) = true := by
  by_cases h : l = m
  · subst h
    rw [text_same]
    simp
  · have hk : ¬ (⟨(keyV l).toArray⟩ : ByteArray) = ⟨(keyV m).toArray⟩ := fun e => h (key_inj (by have := congrArg (fun s : ByteArray => s.data.toList) e; simpa using this))
    rw [text_other hk, decide_eq_false h]
    rfl
set_option maxHeartbeats 16000000 in
set_option maxRecDepth 100000 in
theorem walk (a0 : Option Addr) (l0 c0 : Nat) (xs : List Int) (a1 : Option Addr) (l1 c1 : Nat) (ys : List Int) (w : World)
    (hA : RdZ w.heap.size w (.slice a0 l0 c0) xs ∧ ∀ x ∈ xs, -9223372036854775808 ≤ x ∧ x ≤ 9223372036854775807) (hB : RdZ w.heap.size w (.slice a1 l1 c1) ys ∧ ∀ x ∈ ys, -9223372036854775808 ≤ x ∧ x ≤ 9223372036854775807) (ht : Pow w) :
    Calls Tryd.prog 3 #[.slice a0 l0 c0, .slice a1 l1 c1] w fun e w' => e = .returned (.bool true) ∧ Below w.heap.size w w' := by
  obtain ⟨hA, fA⟩ := hA
  obtain ⟨hB, fB⟩ := hB
  have hn0 := hA.nums.1
  have hn1 := hB.nums.1
  have HA := hidden (fun W (hb : Below w.heap.size w W) => hA.later hb)
  have HBB := hidden (fun W (hb : Below w.heap.size w W) => hB.later hb)
  have HP := hidden (fun W (hb : Below w.heap.size w W) => (show Pow W from Lib.tabBelow_of_tabIs ht W hb))
  have FA := hidden fA
  have FB := hidden fB
  have HN0 := hidden hn0
  have HN1 := hidden hn1
  clear hA hB hn0 hn1 ht fA fB
  by_cases p0 : 200 < l0
  · have q0 : decide ((200 : Int) < (l0 : Int)) = true := decide_eq_true (by omega)
    have q0' : decide (200 < l0) = true := decide_eq_true p0
    clear p0
    go_enter Tryd.func3, Tryd.ntmps3
    go_wp2_with fail
    refine (knows_calls _).mono ?_
    rintro e w99 ⟨rfl, hb99⟩
    go_wp2
    go_ret
    exact ⟨rfl, below_after (Below.refl _ _) hb99⟩
  · have q0 : decide ((200 : Int) < (l0 : Int)) = false := decide_eq_false (by omega)
    have q0' : decide (200 < l0) = false := decide_eq_false p0
    by_cases p1 : 200 < l1
    · have q1 : decide ((200 : Int) < (l1 : Int)) = true := decide_eq_true (by omega)
      have q1' : decide (200 < l1) = true := decide_eq_true p1
      clear p0 p1
      go_enter Tryd.func3, Tryd.ntmps3
      go_wp2_with fail
      refine (knows_calls _).mono ?_
      rintro e w99 ⟨rfl, hb99⟩
      go_wp2
      go_ret
      exact ⟨rfl, below_after (Below.refl _ _) hb99⟩
    · have q1 : decide ((200 : Int) < (l1 : Int)) = false := decide_eq_false (by omega)
      have q1' : decide (200 < l1) = false := decide_eq_false p1
      have HLX := hidden (show xs.length ≤ 200 by have := HN0.out; omega)
      have HLY := hidden (show ys.length ≤ 200 by have := HN1.out; omega)
      have hk := keys_eq xs ys
      obtain ⟨sx, hsx⟩ : ∃ sx : ByteArray, sx = ⟨(keyV xs).toArray⟩ := ⟨_, rfl⟩
      obtain ⟨sy, hsy⟩ : ∃ sy : ByteArray, sy = ⟨(keyV ys).toArray⟩ := ⟨_, rfl⟩
      have KX := hidden (fun W (hb : Below w.heap.size w W) => key_calls W _ xs (HA.out W hb) (by have := HLX.out; omega) FA.out (HP.out W hb))
      have KY := hidden (fun W (hb : Below w.heap.size w W) => key_calls W _ ys (HBB.out W hb) (by have := HLY.out; omega) FB.out (HP.out W hb))
      rw [← hsx, ← hsy] at hk
      rw [← hsx] at KX
      rw [← hsy] at KY
      obtain ⟨dxy, hd⟩ : ∃ d, d = decide (xs = ys) := ⟨_, rfl⟩
      obtain ⟨ub, hub⟩ : ∃ d, d = upB xs := ⟨_, rfl⟩
      rw [← hd] at hk
      have HD := hidden hd.symm
      have HU := hidden hub.symm
      have hbb : (ub == ub) = true := by simp
      have hdd : (dxy == dxy) = true := by simp
      clear p0 p1 hsx hsy hd hub
      go_enter Tryd.func3, Tryd.ntmps3
      go_wp2_with fail
      refine (of_calls _ _ _ (HA.out _ (Below.refl _ _)) (by have := HLX.out; omega)).mono ?_
      rintro e w1 ⟨vP, rfl, hr1, hb1⟩
      have HB1 := hidden (hb1)
      have P_1 := hidden hr1.reads
      obtain ⟨aP, cP, rfl⟩ := hr1.form
      clear hr1 hb1
      go_wp2_with fail
      refine (rof_calls _ _ _ (HA.out _ HB1.out) (by have := HLX.out; omega)).mono ?_
      rintro e w2 ⟨vR, rfl, hr2, hb2⟩
      have HB2 := hidden (below_after HB1.out hb2)
      have P_2 := hidden (P_1.out.later hb2)
      have R_2 := hidden hr2.reads
      obtain ⟨aR, cR, rfl⟩ := hr2.form
      clear hr2 hb2
      go_wp2_with fail
      refine (rsame_calls P_2.out R_2.out).mono ?_
      rintro e w3 ⟨rfl, hb3⟩
      rw [same_self]
      have HB3 := hidden (below_after HB2.out hb3)
      have P_3 := hidden (P_2.out.later hb3)
      have R_3 := hidden (R_2.out.later hb3)
      clear hb3
      go_wp2_with fail
      refine (right_calls _ _ _ (HA.out _ HB3.out)).mono ?_
      rintro e w4 ⟨rfl, hb4⟩
      rw [HU.out]
      have HB4 := hidden (below_after HB3.out hb4)
      clear hb4
      go_wp2_with fail
      refine (rright_calls _ _ _ (HA.out _ HB4.out)).mono ?_
      rintro e w5 ⟨rfl, hb5⟩
      rw [HU.out]
      have HB5 := hidden (below_after HB4.out hb5)
      clear hb5
      go_wp2_with fail
      refine (same_calls _ _ _ _ _ (HA.out _ HB5.out) (HBB.out _ HB5.out)).mono ?_
      rintro e w6 ⟨rfl, hb6⟩
      rw [HD.out]
      have HB6 := hidden (below_after HB5.out hb6)
      clear hb6
      go_wp2_with fail
      refine (rsame_calls (HA.out _ HB6.out) (HBB.out _ HB6.out)).mono ?_
      rintro e w7 ⟨rfl, hb7⟩
      rw [HD.out]
      have HB7 := hidden (below_after HB6.out hb7)
      clear hb7
      go_wp2_with fail
      refine (KX.out _ HB7.out).mono ?_
      rintro e w8 ⟨rfl, hb8⟩
      have HB8 := hidden (below_after HB7.out hb8)
      clear hb8
      go_wp2_with fail
      refine (KY.out _ HB8.out).mono ?_
      rintro e w9 ⟨rfl, hb9⟩
      have HB9 := hidden (below_after HB8.out hb9)
      clear hb9
      go_wp2_with fail
      refine (rsame_calls (HA.out _ HB9.out) (HBB.out _ HB9.out)).mono ?_
      rintro e w10 ⟨rfl, hb10⟩
      rw [HD.out]
      have HB10 := hidden (below_after HB9.out hb10)
      clear hb10
      go_wp2_with fail
      refine (same_calls _ _ _ _ _ (HA.out _ HB10.out) (HA.out _ HB10.out)).mono ?_
      rintro e w11 ⟨rfl, hb11⟩
      rw [same_self]
      have HB11 := hidden (below_after HB10.out hb11)
      clear hb11
      go_wp2_with fail
      refine (knows_calls _).mono ?_
      rintro e w99 ⟨rfl, hb99⟩
      go_wp2
      go_ret
      exact ⟨rfl, below_after HB11.out hb99⟩

set_option maxRecDepth 100000 in
theorem lifted (os : Os) (started : os.Started) (H : Type) (enc : TypeId × Value → H) :
    ReturnsInHanded {} Tryd.checked os 3 .any (fun w args => (Rows.manyOfSpec.pre enc Tryd.prog Tryd.f3 Rows.manyOfRow.domain false w args ∧ laidMetH Tryd.prog [("math/bits.deBruijn32tab", Rows.laid_math_bits_deBruijn32tab), ("math/bits.deBruijn64tab", Rows.laid_math_bits_deBruijn64tab), ("internal/strconv.uint64pow10", Rows.laid_internal_strconv_uint64pow10)] w) ∧ sizedMet enc Tryd.prog Tryd.f3 (OpenSpec.ofChange Rows.manyOfSpec) false w args)
      (Rows.manyOfSpec.post enc Tryd.prog Tryd.f3 false true false false) := by
  refine returnsInHanded_of_change_and (C := Tryd.checked) (X := fun w _ => laidMetH Tryd.prog [("math/bits.deBruijn32tab", Rows.laid_math_bits_deBruijn32tab), ("math/bits.deBruijn64tab", Rows.laid_math_bits_deBruijn64tab), ("internal/strconv.uint64pow10", Rows.laid_internal_strconv_uint64pow10)] w) (fun _ _ _ hh h => h.of_heap hh) own started (by kernel_rfl) Tryd.func3
    (ChangeSpec.witness_shaped (enc := enc) (C := Tryd.checked) (os := os) (X := fun w _ => laidMetH Tryd.prog [("math/bits.deBruijn32tab", Rows.laid_math_bits_deBruijn32tab), ("math/bits.deBruijn64tab", Rows.laid_math_bits_deBruijn64tab), ("internal/strconv.uint64pow10", Rows.laid_internal_strconv_uint64pow10)] w) false (World.laidAll Tryd.prog os [("math/bits.deBruijn32tab", Rows.laid_math_bits_deBruijn32tab), ("math/bits.deBruijn64tab", Rows.laid_math_bits_deBruijn64tab), ("internal/strconv.uint64pow10", Rows.laid_internal_strconv_uint64pow10)]) #[.slice none 0 0, .slice none 0 0] 8 (World.laidAll_os _ _ _)
      (World.shaped_of_ZipB (by kernel_rfl) (by kernel_rfl)) (by kernel_rfl) (by kernel_rfl) (by kernel_rfl)
      (by rw [MakeChecks.laidMetH_plain _ _ _ (by kernel_rfl)]; exact laidMet_laidAll _ (by kernel_rfl) (by kernel_rfl))) ?_
  intro W base args ds gs before hval0 hW hcnd _ hL _
  have hval : ∀ (j : Nat) t v, Tryd.f3.params[j]? = some t → args[j]? = some v → Value.okWide Tryd.prog W .any base t v := hval0
  have hW' : DataW.Whole enc Tryd.prog Tryd.f3.params.toList Rows.manyOfSpec.vars false W args.toList ds gs before := hW
  obtain ⟨p, q, hA0, hV, rfl, hfz, hnd⟩ := hW
  have hA : DataW.TrodAll enc Tryd.prog W 0 (fun _ => true) true Tryd.f3.params.toList args.toList ds p := hA0
  have ht : Pow W := of_laid (by kernel_rfl) (by kernel_rfl) (by kernel_rfl) hL
  rw [Tryd.params3] at hA hval
  obtain ⟨v0, vs0, d0, ds0, p0, q0, hargs, hd0, hp0, h0, r0⟩ := trodAll_cons hA
  obtain ⟨v1, vs1, d1, ds1, p1, q1, rfl, hd1, hp1, h1, r1⟩ := trodAll_cons r0
  obtain ⟨rfl, _, _⟩ := trodAll_nil r1
  obtain rfl : args = #[v0, v1] := by cases args; simp_all
  obtain ⟨a0, len0, cap0, rfl⟩ := okWide_slice Tryd.underlying22 (hval 0 22 v0 rfl rfl)
  obtain ⟨z0, w0⟩ := open_zs h0
  obtain ⟨a1, len1, cap1, rfl⟩ := okWide_slice Tryd.underlying22 (hval 1 22 v1 rfl rfl)
  obtain ⟨z1, w1⟩ := open_zs h1
  refine (walk a0 len0 cap0 z0 a1 len1 cap1 z1 W w0 w1 ht).mono fun e W' ⟨he, hb⟩ => ⟨_, he, ends_true hW' rfl (by kernel_rfl) ?_ (by kernel_rfl) hb⟩
  intro xs hxs
  match xs, hxs with
  | [_, _], _ => rfl

theorem proved : Rows.ManyOfSaid :=
  OpenClaim.holds_of_wide 3 Tryd.f3 rfl rfl rfl rfl rfl rfl rfl ⟨rfl, rfl, rfl, rfl, rfl⟩ rfl rfl rfl rfl rfl (by kernel_rfl) Tryd.func3 (by kernel_rfl)
    (of_decide_eq_true (by kernel_rfl)) (by unfold Func.isWrapper; first | (rw [if_pos (by decide +kernel)]; kernel_rfl) | (rw [if_neg (by decide +kernel)]; exact ⟨rfl, rfl⟩))
    (fun os started H enc _ => lifted os started H enc)

/-- the card: the row, and what it lists tied to the program's text -/
theorem card : Rows.ManyOfCardSaid :=
  Claim7.holds_tied_plain_at .later [] [.data, .data, .data] true (true, "826950c0d9a4d62eb2557490a1f09bc302648c7a559d91a8e5e19cfe559568d6") false
    proved (fun _ h => by cases h) (by kernel_rfl) (fun _ h => by cases h) manyOf_row_tie rfl ⟨rfl, rfl⟩ (by kernel_rfl) rfl
    (fun f fn hf hfn => by
      obtain rfl : f = 3 := Option.some.inj ((show Tryd.prog.funcNamed "facsimile/facsimilelaw11.ManyOf" = some 3 by kernel_rfl).symm.trans hf) |>.symm
      obtain rfl : fn = Tryd.f3 := (Option.some.inj (Tryd.func3.symm.trans hfn)).symm
      exact ⟨by kernel_rfl, fun j t ht => by
        rw [Tryd.params3] at ht
        have hm : t ∈ [22, 22] := by simpa using Array.mem_of_getElem? ht
        have hall : ([22, 22].all fun u => !Tryd.prog.wantsStandIn u) = true := by kernel_rfl
        exact (show Tryd.prog.wantsStandIn t = false by simpa using List.all_eq_true.1 hall t hm)⟩)
    (by kernel_rfl)

end Go.Proofs.YtbnohmbdfcapkaaDoor.lawManyOf
