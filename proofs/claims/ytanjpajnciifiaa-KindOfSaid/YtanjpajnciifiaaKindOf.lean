/- KindOf (P1302), for every input: the classes of at most 40 sets are the document's, with their number; they are right, and as wide as there are. -/
import Derived.Test.YtanjpajnciifiaaKiOpen
import Derived.Test.YtanjpajnciifiaaKiAsk
namespace Go.Proofs.Ytanjpajnciifiaa.lawKindOf
open Go.ChangeShapes Go.WideShapes Go.ChangeAt Go.RowKit

theorem rgt_cls {κ : Type} [DecidableEq κ] (k : Nat → κ) : ∀ n b, rgt (clsK k) n b (cntK k b) = true
  | 0, _ => rfl
  | n + 1, b => by
    have h := cls_le k b
    rw [rgt, if_neg (by omega)]
    by_cases e : fstK k b = b
    · rw [if_pos (cls_new k e), ← cnt_new k e]; exact rgt_cls k n (b + 1)
    · rw [if_neg (by have := cls_old k e; omega), ← cnt_old k e]; exact rgt_cls k n (b + 1)
theorem right_cls {κ : Type} [DecidableEq κ] (k : Nat → κ) : rightV (clsK k) = true := rgt_cls k 256 0

set_option maxHeartbeats 1000000 in
set_option maxRecDepth 100000 in
theorem walk (a : Option Addr) (len cap : Nat) (fs : List (Nat → Bool)) (w : World) (hh : cap ≤ maxLen ∧ len ≤ cap ∧ Sets w a len fs) :
    Calls Try.prog 3 #[.slice a len cap] w fun e w' => e = .returned (.bool true) ∧ Below w.heap.size w w' := by
  obtain ⟨hcap, hlen, hS⟩ := hh
  unfold maxLen at hcap
  have HS := hidden hS
  clear hS
  have hal := run_zero_arr
  by_cases h40 : 40 < len
  · go_enter Try.func3, Try.ntmps3
    go_wp2_with fail
    refine (knows_calls _).mono ?_
    rintro e w1 ⟨rfl, hb1⟩
    go_wp2
    go_ret
    exact ⟨rfl, hb1⟩
  · have hN : IntKind.i64.wrap 0 = 0 := rfl
    have HE := hidden (fun w' => eq_same w' (g := clsK (keyL fs)) (h := clsK (keyL fs)) fun _ _ => rfl)
    have HLT := hidden (show ∀ j, j < 256 → clsK (keyL fs) j < 256 from fun j hj => Nat.lt_of_lt_of_le (cls_lt _ hj) (cnt_le _ 256))
    go_enter Try.func3, Try.ntmps3
    go_wp2_with fail
    refine (of_calls a len cap fs _ (by omega) HS.out).mono ?_
    rintro e w1 ⟨rfl, hb1⟩
    have HB1 := hidden hb1
    have HN1 := hidden (ArrAt.new w1 24 (nV fun _ => 0))
    clear hb1
    go_wp2_with (first
      | (refine store_arr rfl (x := .tmp 3) (y := .tmp 14) rfl (B := w1.heap.size) (clsK (keyL fs)) rfl rfl HN1.out ?_; intro w2 hw2 hs2; have HX2 := hidden (show ArrAt w2 w1.heap.size 24 (nV (clsK (keyL fs))) ∧ Below w.heap.size w w2 from (by have e := hw2.out; subst e; exact ⟨HN1.out.storedRow _, below_setRow (HB1.out.alloc HB1.out.size _) HB1.out.size _⟩)); clear hw2)
      | fail)
    refine (rof_calls a len cap fs _ (by omega) (HS.out.below HX2.out.2)).mono ?_
    rintro e w3 ⟨rfl, hb3⟩
    have HB3 := hidden (below_after HX2.out.2 hb3)
    have HA3 := hidden (HX2.out.1.below hb3)
    have HN3 := hidden (ArrAt.new w3 24 (nV fun _ => 0))
    clear hb3
    have heq := HE.out
    go_wp2_with (first
      | (refine store_arr rfl (x := .tmp 5) (y := .tmp 19) rfl (B := w3.heap.size) (clsK (keyL fs)) rfl rfl HN3.out ?_; intro w4 hw4 hs4; have HX4 := hidden (show ArrAt w4 w3.heap.size 24 (nV (clsK (keyL fs))) ∧ ArrAt w4 w1.heap.size 24 (nV (clsK (keyL fs))) ∧ Below w.heap.size w w4 from (by have e := hw4.out; subst e; exact ⟨HN3.out.storedRow _, (HA3.out.alloc _).otherRow (fun e => by have := HA3.out.lt; omega) _, below_setRow (HB3.out.alloc HB3.out.size _) HB3.out.size _⟩)); clear hw4)
      | (refine load_arr rfl (x := .tmp 3) rfl (B := w1.heap.size) rfl HX4.out.2.1 ?_)
      | (refine load_arr rfl (x := .tmp 5) rfl (B := w3.heap.size) rfl HX4.out.1 ?_))
    refine wp_load_arr (x := .tmp 3) rfl (B := w1.heap.size) rfl HX4.out.2.1 ?_
    clear heq
    go_wp2_with fail
    refine (right_calls (clsK (keyL fs)) _ HLT.out).mono ?_
    rintro e w5 ⟨rfl, hb5⟩
    rw [right_cls]
    have HA5 := hidden (HX4.out.2.1.below hb5)
    have HB5 := hidden (below_after HX4.out.2.2 hb5)
    clear hb5
    go_wp2_with fail
    refine wp_load_arr (x := .tmp 3) rfl (B := w1.heap.size) rfl HA5.out ?_
    go_wp2_with fail
    refine (width_calls (clsK (keyL fs)) _ HLT.out).mono ?_
    rintro e w6 ⟨rfl, hb6⟩
    rw [wid_cls]
    have HB6 := hidden (below_after HB5.out hb6)
    clear hb6
    go_wp2_with fail
    refine (knows_calls _).mono ?_
    rintro e w7 ⟨rfl, hb7⟩
    have HB7 := hidden (below_after HB6.out hb7)
    clear hb7
    go_wp2
    go_ret
    exact ⟨rfl, HB7.out⟩

set_option maxRecDepth 100000 in
theorem lifted (os : Os) (started : os.Started) (H : Type) (enc : TypeId × Value → H) :
    ReturnsInHanded {} Try.checked os 3 .any (Rows.kindOfSpec.pre6 enc Try.prog Try.f3 Rows.kindOfRow.domain false) (Rows.kindOfSpec.post enc Try.prog Try.f3 false true false false) := by
  refine returnsInHanded_of_change (C := Try.checked) own started (by kernel_rfl) Try.func3
    (ChangeSpec.witness6 (enc := enc) (C := Try.checked) false ⟨#[], #[.slice none 0 0], []⟩ 8 (by kernel_rfl) (by kernel_rfl) (by kernel_rfl) (by kernel_rfl)) ?_
  intro W base args ds gs before hval0 hW hcnd _
  have hval : ∀ (j : Nat) t v, Try.f3.params[j]? = some t → args[j]? = some v → Value.okWide Try.prog W .any base t v := hval0
  have hW' : DataW.Whole enc Try.prog Try.f3.params.toList Rows.kindOfSpec.vars false W args.toList ds gs before := hW
  obtain ⟨p, q, hA0, hV, rfl, hfz, hnd⟩ := hW
  have hA : DataW.TrodAll enc Try.prog W 0 (fun _ => true) true Try.f3.params.toList args.toList ds p := hA0
  have hlt : ∀ x ∈ p, x.block < W.heap.size := fun x hx => hW'.lt x (List.mem_append_left _ hx)
  rw [Try.params3] at hA hval
  obtain ⟨v0, vs0, d0, ds0, p0, q0, hargs, hd0, hp0, h0, r0⟩ := trodAll_cons hA
  obtain ⟨rfl, _, _⟩ := trodAll_nil r0
  obtain rfl : args = #[v0] := by cases args; simp_all
  obtain ⟨a0, len0, cap0, rfl⟩ := okWide_slice Try.underlying22 (hval 0 22 v0 rfl rfl)
  obtain ⟨z0, w0⟩ := open_sets h0
  refine (walk a0 len0 cap0 z0 W w0).mono fun e W' ⟨he, hb⟩ => ⟨_, he, ends_true hW' rfl (by kernel_rfl) ?_ (by kernel_rfl) hb⟩
  intro xs hxs
  match xs, hxs with
  | [_], _ => rfl

theorem proved : Rows.KindOfSaid :=
  OpenClaim.holds_of_wide 3 Try.f3 rfl rfl rfl rfl rfl rfl rfl ⟨rfl, rfl, rfl, rfl, rfl⟩ rfl rfl rfl rfl rfl (by kernel_rfl) Try.func3 (by kernel_rfl)
    (of_decide_eq_true (by kernel_rfl)) (by unfold Func.isWrapper; first | (rw [if_pos (by decide +kernel)]; kernel_rfl) | (rw [if_neg (by decide +kernel)]; exact ⟨rfl, rfl⟩))
    (fun os started H enc _ => lifted os started H enc)
end Go.Proofs.Ytanjpajnciifiaa.lawKindOf
