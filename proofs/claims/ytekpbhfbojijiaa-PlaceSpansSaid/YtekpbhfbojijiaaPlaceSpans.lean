/- 'PlaceSpans' answers true for every two stretches and every number: Len, Right, Meets and Join are the reference's. Conditions: none. -/
import Derived.Test.YtekpbhfbojijiaaPlaceOf
namespace Go.Proofs.Ytekpbhfbojijiaa.lawPlaceSpans
open Go.ChangeShapes Go.WideShapes Go.ChangeAt Go.RowKit

set_option maxHeartbeats 1000000 in
theorem walk (a b c d n : Int) (w : World) (ha : -9223372036854775808 ≤ a ∧ a ≤ 9223372036854775807) (hb : -9223372036854775808 ≤ b ∧ b ≤ 9223372036854775807) (_ : -9223372036854775808 ≤ c ∧ c ≤ 9223372036854775807) (_ : -9223372036854775808 ≤ d ∧ d ≤ 9223372036854775807) (_ : -9223372036854775808 ≤ n ∧ n ≤ 9223372036854775807) :
    Calls Try.prog 4 #[.agg #[.int .i64 a, .int .i64 b], .agg #[.int .i64 c, .int .i64 d], .int .i64 n] w fun e w' => e = .returned (.bool true) ∧ Below w.heap.size w w' := by
  have l1 := hidden (fun W => len_calls a b W ha hb)
  have l2 := hidden (fun W => rlen_calls a b W ha hb)
  have r1 := hidden (fun W => right_calls a b n W)
  have r2 := hidden (fun W => rright_calls a b n W)
  have m1 := hidden (fun W => meets_calls a b c d W)
  have m2 := hidden (fun W => rmeets_calls a b c d W)
  have j1 := hidden (fun W => join_calls a b c d W)
  have j2 := hidden (fun W => rjoin_calls a b c d W)
  generalize lenV a b = L at l1 l2
  generalize rightV a b n = R at r1 r2
  generalize meetsV a b c d = M at m1 m2
  generalize min a c = x at j1 j2
  generalize max b d = y at j1 j2
  clear ha hb
  go_enter Try.func4, Try.ntmps4
  go_wp2
  have hA := (PairAt.new 34 w a b).alloc (.cells #[.int .i64 c, .int .i64 d] 34)
  have hC := PairAt.made (t := 34) (w := w.alloc (.cells #[.int .i64 a, .int .i64 b] 34)) (a := c) (b := d) (B := w.heap.size + 1) (by simp)
  have a0 := hA.later0
  have a1 := hA.later1
  have c0 := hC.later0
  have c1 := hC.later1
  clear hA hC
  refine wp_region_later (by kernel_rfl) (by kernel_rfl) ?_
  repeat (go_big_quiet_step (first
    | (go_at_call 17; exact Later.calls (l1.out _))
    | (go_at_call 18; exact Later.calls (l2.out _))
    | (go_at_call 19; exact Later.calls (r1.out _))
    | (go_at_call 20; exact Later.calls (r2.out _))
    | (go_at_call 21; exact Later.calls (m1.out _))
    | (go_at_call 22; exact Later.calls (m2.out _))
    | (go_at_call 23; exact Later.calls (j1.out _))
    | (go_at_call 24; exact Later.calls (j2.out _))
    | (go_at_call 8; exact Later.calls (knows_calls _))))
  refine wpQuiet_nil ?_
  rintro _ ⟨⟨w1, hb1⟩, rfl⟩
  go_wp2
  go_ret
  exact ⟨rfl, below_then (by go_grown) (by simp; omega) hb1⟩

set_option maxRecDepth 100000 in
theorem lifted (os : Os) (started : os.Started) (H : Type) (enc : TypeId × Value → H) :
    ReturnsInHanded {} Try.checked os 4 .any (Rows.placeSpansSpec.pre6 enc Try.prog Try.f4 Rows.placeSpansRow.domain false) (Rows.placeSpansSpec.post enc Try.prog Try.f4 false true false false) := by
  refine returnsInHanded_of_change (C := Try.checked) own started (by kernel_rfl) Try.func4
    (ChangeSpec.witness6 (enc := enc) (C := Try.checked) false ⟨#[], #[.agg #[.int .i64 0, .int .i64 0], .agg #[.int .i64 0, .int .i64 0], .int .i64 0], []⟩ 8 (by kernel_rfl) (by kernel_rfl) (by kernel_rfl) (by kernel_rfl)) ?_
  intro W base args ds gs before hval0 hW hcnd _
  have hval : ∀ (j : Nat) t v, Try.f4.params[j]? = some t → args[j]? = some v → Value.okWide Try.prog W .any base t v := hval0
  have hW' : DataW.Whole enc Try.prog Try.f4.params.toList Rows.placeSpansSpec.vars false W args.toList ds gs before := hW
  obtain ⟨p, q, hA0, hV, rfl, hfz, hnd⟩ := hW
  have hA : DataW.TrodAll enc Try.prog W 0 (fun _ => true) true Try.f4.params.toList args.toList ds p := hA0
  have hlt : ∀ x ∈ p, x.block < W.heap.size := fun x hx => hW'.lt x (List.mem_append_left _ hx)
  rw [Try.params4] at hA hval
  obtain ⟨v0, vs0, d0, ds0, p0, q0, hargs, hd0, hp0, h0, r0⟩ := trodAll_cons hA
  obtain ⟨v1, vs1, d1, ds1, p1, q1, rfl, hd1, hp1, h1, r1⟩ := trodAll_cons r0
  obtain ⟨v2, vs2, d2, ds2, p2, q2, rfl, hd2, hp2, h2, r2⟩ := trodAll_cons r1
  obtain ⟨rfl, _, _⟩ := trodAll_nil r2
  obtain rfl : args = #[v0, v1, v2] := by cases args; simp_all
  obtain ⟨a0, b0, rfl, w0, u0⟩ := open_pair Try.underlying34 Try.underlying3 Try.underlying3 (by kernel_rfl) (by kernel_rfl) (hval 0 34 v0 rfl rfl) h0
  obtain ⟨a1, b1, rfl, w1, u1⟩ := open_pair Try.underlying34 Try.underlying3 Try.underlying3 (by kernel_rfl) (by kernel_rfl) (hval 1 34 v1 rfl rfl) h1
  obtain ⟨a2, rfl, _, _, w2⟩ := open_int Try.underlying3 (hval 2 3 v2 rfl rfl) h2
  refine (walk a0 b0 a1 b1 a2 W (wf_i64 w0) (wf_i64 u0) (wf_i64 w1) (wf_i64 u1) (wf_i64 w2)).mono fun e W' ⟨he, hb⟩ => ⟨_, he, ends_true hW' rfl (by kernel_rfl) ?_ (by kernel_rfl) hb⟩
  intro xs hxs
  match xs, hxs with
  | [_, _, _], _ => rfl

theorem proved : Rows.PlaceSpansSaid :=
  OpenClaim.holds_of_wide 4 Try.f4 rfl rfl rfl rfl rfl rfl rfl ⟨rfl, rfl, rfl, rfl, rfl⟩ rfl rfl rfl rfl rfl (by kernel_rfl) Try.func4 (by kernel_rfl)
    (of_decide_eq_true (by kernel_rfl)) (by unfold Func.isWrapper; first | (rw [if_pos (by decide +kernel)]; kernel_rfl) | (rw [if_neg (by decide +kernel)]; exact ⟨rfl, rfl⟩))
    (fun os started H enc _ => lifted os started H enc)
end Go.Proofs.Ytekpbhfbojijiaa.lawPlaceSpans
