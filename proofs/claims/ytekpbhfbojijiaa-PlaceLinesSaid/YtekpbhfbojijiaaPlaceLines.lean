/- 'PlaceLines' answers true for every text, every place and every line and column: Lines, At, Of and Line are the reference's. Conditions: none. -/
import Derived.Test.YtekpbhfbojijiaaPlaceOf
namespace Go.Proofs.Ytekpbhfbojijiaa.lawPlaceLines
open Go.ChangeShapes Go.WideShapes Go.ChangeAt Go.RowKit
open Go.ChangeMaps (open_string shut_string)

theorem at_both (s : ByteArray) (x : Int) (hs : s.size ≤ 1000000) : ∃ (L C : Int) (ok : Bool), (∀ W, Calls Try.prog 9 #[.string s, .int .i64 x] W fun e w' => e = .returned (.tuple #[.agg #[.int .i64 L, .int .i64 C], .bool ok]) ∧ Below W.heap.size W w') ∧
    (∀ W, Calls Try.prog 10 #[.string s, .int .i64 x] W fun e w' => e = .returned (.tuple #[.agg #[.int .i64 L, .int .i64 C], .bool ok]) ∧ Below W.heap.size W w') := by
  by_cases h : x < 0 ∨ (s.size : Int) < x
  · exact ⟨0, 0, false, fun W => at_out s x W h, fun W => rat_out s x W h⟩
  · obtain ⟨k, rfl⟩ := Int.eq_ofNat_of_zero_le (show 0 ≤ x by omega)
    exact ⟨_, _, true, fun W => at_calls s k W hs (by omega), fun W => rat_calls s k W hs (by omega)⟩

set_option maxHeartbeats 2000000 in
theorem walk (s : ByteArray) (x n c : Int) (w : World) (_ : s.size ≤ maxLen) (_ : -9223372036854775808 ≤ x ∧ x ≤ 9223372036854775807) (_ : -9223372036854775808 ≤ n ∧ n ≤ 9223372036854775807) (hc : -9223372036854775808 ≤ c ∧ c ≤ 9223372036854775807) :
    Calls Try.prog 3 #[.string s, .int .i64 x, .agg #[.int .i64 n, .int .i64 c]] w fun e w' => e = .returned (.bool true) ∧ Below w.heap.size w w' := by
  by_cases hlen : 300 < s.size
  · go_enter Try.func3, Try.ntmps3
    go_wp2_with fail
    refine (knows_calls _).mono ?_
    rintro e w1 ⟨rfl, hb1⟩
    go_wp2
    go_ret
    exact ⟨rfl, below_then (by go_grown) (by simp) hb1⟩
  · have hs : s.size ≤ 1000000 := by omega
    obtain ⟨L, C, ok, a1, a2⟩ := at_both s x hs
    have o1 := hidden (fun W => of_calls s n c W hs hc)
    have o2 := hidden (fun W => rof_calls s n c W hs)
    have t1 := hidden (fun W => line_calls s n W hs)
    have t2 := hidden (fun W => rline_calls s n W hs)
    have n1 := hidden (fun W => lines_calls s W hs)
    have n2 := hidden (fun W => rlines_calls s W hs)
    generalize ofV s.data.toList n c = o at o1 o2
    generalize lineV s.data.toList n = t at t1 t2
    generalize ((s.data.toList.count 10 + 1 : Nat) : Int) = m at n1 n2
    obtain ⟨o, ook⟩ := o
    obtain ⟨⟨ta, tb⟩, tok⟩ := t
    unfold ofR at o1 o2
    unfold lineR at t1 t2
    simp only at o1 o2 t1 t2
    generalize s.extract ta tb = T at t1 t2
    have A1 := hidden a1
    have A2 := hidden a2
    clear a1 a2 hs hc
    go_enter Try.func3, Try.ntmps3
    go_wp2_with fail
    refine (A1.out _).mono ?_
    rintro e w1 ⟨rfl, hb1⟩
    have p1 := (PairAt.new 23 w n c).below hb1
    have hB1 := hidden (below_then (a := w) (B := w.heap.size) (by go_grown) (by simp) hb1)
    have hs1 := p1.lt
    obtain ⟨c0, c1, _, _⟩ := p1.facts
    clear hb1
    go_wp2_with fail
    refine (A2.out _).mono ?_
    rintro e w2 ⟨rfl, hb2⟩
    have p2 := (p1.alloc (.cells #[.int .i64 L, .int .i64 C] 23)).below hb2
    have q2 := (PairAt.new 23 w1 L C).below hb2
    have hB2 := hidden (below_then (hB1.out.alloc hB1.out.size (.cells #[.int .i64 L, .int .i64 C] 23)) (by simp; omega) hb2)
    have hs2 := q2.lt
    have hp2 := p2.lt
    clear hb2 c0 c1 p1
    obtain ⟨c0, c1, _, _⟩ := p2.facts
    obtain ⟨d0, d1, _, _⟩ := q2.facts
    go_wp2_with fail
    refine (o1.out _).mono ?_
    rintro e w3 ⟨rfl, hb3⟩
    have p3 := (p2.alloc (.cells #[.int .i64 L, .int .i64 C] 23)).below hb3
    have q3 := (q2.alloc (.cells #[.int .i64 L, .int .i64 C] 23)).below hb3
    have r3 := (PairAt.new 23 w2 L C).below hb3
    have hB3 := hidden (below_then (hB2.out.alloc hB2.out.size (.cells #[.int .i64 L, .int .i64 C] 23)) (by simp; omega) hb3)
    clear hb3 c0 c1 d0 d1 p2 q2
    obtain ⟨c0, c1, _, _⟩ := p3.facts
    go_wp2_with fail
    refine (o2.out _).mono ?_
    rintro e w4 ⟨rfl, hb4⟩
    have p4 := p3.below hb4
    have q4 := q3.below hb4
    have r4 := r3.below hb4
    have hB4 := hidden (below_after hB3.out hb4)
    clear hb4 c0 c1 p3 q3 r3
    obtain ⟨c0, c1, _, _⟩ := p4.facts
    go_wp2_with fail
    refine (t1.out _).mono ?_
    rintro e w5 ⟨rfl, hb5⟩
    have p5 := p4.below hb5
    have q5 := q4.below hb5
    have r5 := r4.below hb5
    have hB5 := hidden (below_after hB4.out hb5)
    clear hb5 c0 c1 p4 q4 r4
    obtain ⟨c0, c1, _, _⟩ := p5.facts
    go_wp2_with fail
    refine (t2.out _).mono ?_
    rintro e w6 ⟨rfl, hb6⟩
    have q6 := q5.below hb6
    have r6 := r5.below hb6
    have hB6 := hidden (below_after hB5.out hb6)
    clear hb6 c0 c1 p5 q5 r5
    obtain ⟨c0, c1, _, _⟩ := q6.facts
    obtain ⟨d0, d1, _, _⟩ := r6.facts
    go_wp2_with fail
    refine (n1.out _).mono ?_
    rintro e w' ⟨rfl, rfl⟩
    go_wp2_with fail
    refine (n2.out _).mono ?_
    rintro e w' ⟨rfl, rfl⟩
    go_wp2_with fail
    refine (knows_calls _).mono ?_
    rintro e w7 ⟨rfl, hb7⟩
    go_wp2
    go_ret
    exact ⟨rfl, below_after hB6.out hb7⟩

set_option maxRecDepth 100000 in
theorem lifted (os : Os) (started : os.Started) (H : Type) (enc : TypeId × Value → H) :
    ReturnsInHanded {} Try.checked os 3 .any (Rows.placeLinesSpec.pre6 enc Try.prog Try.f3 Rows.placeLinesRow.domain false) (Rows.placeLinesSpec.post enc Try.prog Try.f3 false true false false) := by
  refine returnsInHanded_of_change (C := Try.checked) own started (by kernel_rfl) Try.func3
    (ChangeSpec.witness6 (enc := enc) (C := Try.checked) false ⟨#[], #[.string ⟨#[]⟩, .int .i64 0, .agg #[.int .i64 0, .int .i64 0]], []⟩ 8 (by kernel_rfl) (by kernel_rfl) (by kernel_rfl) (by kernel_rfl)) ?_
  intro W base args ds gs before hval0 hW hcnd _
  have hval : ∀ (j : Nat) t v, Try.f3.params[j]? = some t → args[j]? = some v → Value.okWide Try.prog W .any base t v := hval0
  have hW' : DataW.Whole enc Try.prog Try.f3.params.toList Rows.placeLinesSpec.vars false W args.toList ds gs before := hW
  obtain ⟨p, q, hA0, hV, rfl, hfz, hnd⟩ := hW
  have hA : DataW.TrodAll enc Try.prog W 0 (fun _ => true) true Try.f3.params.toList args.toList ds p := hA0
  have hlt : ∀ x ∈ p, x.block < W.heap.size := fun x hx => hW'.lt x (List.mem_append_left _ hx)
  rw [Try.params3] at hA hval
  obtain ⟨v0, vs0, d0, ds0, p0, q0, hargs, hd0, hp0, h0, r0⟩ := trodAll_cons hA
  obtain ⟨v1, vs1, d1, ds1, p1, q1, rfl, hd1, hp1, h1, r1⟩ := trodAll_cons r0
  obtain ⟨v2, vs2, d2, ds2, p2, q2, rfl, hd2, hp2, h2, r2⟩ := trodAll_cons r1
  obtain ⟨rfl, _, _⟩ := trodAll_nil r2
  obtain rfl : args = #[v0, v1, v2] := by cases args; simp_all
  obtain ⟨a0, rfl, _, _, w0⟩ := open_string Try.underlying9 (hval 0 9 v0 rfl rfl) h0
  obtain ⟨a1, rfl, _, _, w1⟩ := open_int Try.underlying3 (hval 1 3 v1 rfl rfl) h1
  obtain ⟨a2, b2, rfl, w2, u2⟩ := open_pair Try.underlying23 Try.underlying3 Try.underlying3 (by kernel_rfl) (by kernel_rfl) (hval 2 23 v2 rfl rfl) h2
  refine (walk a0 a1 a2 b2 W w0 (wf_i64 w1) (wf_i64 w2) (wf_i64 u2)).mono fun e W' ⟨he, hb⟩ => ⟨_, he, ends_true hW' rfl (by kernel_rfl) ?_ (by kernel_rfl) hb⟩
  intro xs hxs
  match xs, hxs with
  | [_, _, _], _ => rfl

theorem proved : Rows.PlaceLinesSaid :=
  OpenClaim.holds_of_wide 3 Try.f3 rfl rfl rfl rfl rfl rfl rfl ⟨rfl, rfl, rfl, rfl, rfl⟩ rfl rfl rfl rfl rfl (by kernel_rfl) Try.func3 (by kernel_rfl)
    (of_decide_eq_true (by kernel_rfl)) (by unfold Func.isWrapper; first | (rw [if_pos (by decide +kernel)]; kernel_rfl) | (rw [if_neg (by decide +kernel)]; exact ⟨rfl, rfl⟩))
    (fun os started H enc _ => lifted os started H enc)
end Go.Proofs.Ytekpbhfbojijiaa.lawPlaceLines
