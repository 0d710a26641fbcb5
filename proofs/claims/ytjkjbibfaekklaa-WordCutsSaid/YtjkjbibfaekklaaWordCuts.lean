/- 'WordCuts' answers true for every text: Lines, Words and Cut are the reference's. Conditions: none. -/
import Derived.Test.YtjkjbibfaekklaaWordKnows
namespace Go.Proofs.Ytjkjbibfaekklaa.lawWordCuts
open Go.ChangeShapes Go.WideShapes Go.ChangeAt Go.RowKit
open Go.ChangeMaps (open_string shut_string)

set_option maxHeartbeats 2000000 in
set_option maxRecDepth 100000 in
theorem walk (s : ByteArray) (w : World) (hs : s.size ≤ maxLen) :
    Calls Try.prog 4 #[.string s] w fun e w' => e = .returned (.bool true) ∧ Below w.heap.size w w' := by
  unfold maxLen at hs
  by_cases hlen : 1000 < s.size
  · go_enter Try.func4, Try.ntmps4
    go_wp2_with fail
    refine (knows_calls _).mono ?_
    rintro e w1 ⟨rfl, hb1⟩
    go_wp2
    go_ret
    exact ⟨rfl, hb1⟩
  · have C1 := hidden (fun W => wcut_calls s W (by unfold maxLen; omega))
    have C2 := hidden (fun W => rcut_calls s W (by omega))
    have L1 := hidden (fun W => lines_calls s W (by omega))
    have L2 := hidden (fun W => rlines_calls s W (by omega))
    have W1 := hidden (fun W => words_calls s W (by omega))
    have W2 := hidden (fun W => rwords_calls s W (by omega))
    have HR : Hid (RetC s = .returned (.tuple #[.string (cutV s).1, .string (cutV s).2])) := hidden rfl
    rw [HR.out] at C1 C2
    clear HR
    generalize (cutV s).1 = x at *
    generalize (cutV s).2 = y at *
    generalize linesV s = ls at *
    generalize wordsV s = ws at *
    have hx := text_same x
    have hy := text_same y
    have hl := hidden (same_yes' ls)
    have hw := hidden (same_yes' ws)
    go_enter Try.func4, Try.ntmps4
    go_wp2_with fail
    refine (C1.out _).mono ?_
    rintro e w1 ⟨rfl, hb1⟩
    have B1 := hidden hb1
    clear hb1
    go_wp2_with fail
    refine (C2.out _).mono ?_
    rintro e w2 ⟨rfl, hb2⟩
    have B2 := hidden (below_after B1.out hb2)
    clear hb2
    go_wp2_with fail
    refine (L1.out _).mono ?_
    rintro e w3 ⟨v3, rfl, r3, hb3⟩
    have B3 := hidden (below_after B2.out hb3)
    have R3 := hidden r3
    clear hb3 r3
    go_wp2_with fail
    refine (L2.out _).mono ?_
    rintro e w4 ⟨v4, rfl, r4, hb4⟩
    have B4 := hidden (below_after B3.out hb4)
    have R4 := hidden (And.intro (R3.out.kept hb4) r4)
    clear hb4 r4
    go_wp2_with fail
    refine (same_reads R4.out.1 R4.out.2).mono ?_
    rintro e w5 ⟨rfl, hb5⟩
    have B5 := hidden (below_after B4.out hb5)
    clear hb5
    rw [hl.out]
    go_wp2_with fail
    refine (W1.out _).mono ?_
    rintro e w6 ⟨v6, rfl, r6, hb6⟩
    have B6 := hidden (below_after B5.out hb6)
    have R6 := hidden r6
    clear hb6 r6
    go_wp2_with fail
    refine (W2.out _).mono ?_
    rintro e w7 ⟨v7, rfl, r7, hb7⟩
    have B7 := hidden (below_after B6.out hb7)
    have R7 := hidden (And.intro (R6.out.kept hb7) r7)
    clear hb7 r7
    go_wp2_with fail
    refine (same_reads R7.out.1 R7.out.2).mono ?_
    rintro e w8 ⟨rfl, hb8⟩
    have B8 := hidden (below_after B7.out hb8)
    clear hb8
    rw [hw.out]
    go_wp2_with fail
    refine (knows_calls _).mono ?_
    rintro e w9 ⟨rfl, hb9⟩
    go_wp2
    go_ret
    exact ⟨rfl, below_after B8.out hb9⟩

set_option maxRecDepth 100000 in
theorem lifted (os : Os) (started : os.Started) (H : Type) (enc : TypeId × Value → H) :
    ReturnsInHanded {} Try.checked os 4 .any (Rows.wordCutsSpec.pre6 enc Try.prog Try.f4 Rows.wordCutsRow.domain false) (Rows.wordCutsSpec.post enc Try.prog Try.f4 false true false false) := by
  refine returnsInHanded_of_change (C := Try.checked) own started (by kernel_rfl) Try.func4
    (ChangeSpec.witness6 (enc := enc) (C := Try.checked) false ⟨#[], #[.string ⟨#[]⟩], []⟩ 8 (by kernel_rfl) (by kernel_rfl) (by kernel_rfl) (by kernel_rfl)) ?_
  intro W base args ds gs before hval0 hW hcnd _
  have hval : ∀ (j : Nat) t v, Try.f4.params[j]? = some t → args[j]? = some v → Value.okWide Try.prog W .any base t v := hval0
  have hW' : DataW.Whole enc Try.prog Try.f4.params.toList Rows.wordCutsSpec.vars false W args.toList ds gs before := hW
  obtain ⟨p, q, hA0, hV, rfl, hfz, hnd⟩ := hW
  have hA : DataW.TrodAll enc Try.prog W 0 (fun _ => true) true Try.f4.params.toList args.toList ds p := hA0
  have hlt : ∀ x ∈ p, x.block < W.heap.size := fun x hx => hW'.lt x (List.mem_append_left _ hx)
  rw [Try.params4] at hA hval
  obtain ⟨v0, vs0, d0, ds0, p0, q0, hargs, hd0, hp0, h0, r0⟩ := trodAll_cons hA
  obtain ⟨rfl, _, _⟩ := trodAll_nil r0
  obtain rfl : args = #[v0] := by cases args; simp_all
  obtain ⟨a0, rfl, _, _, w0⟩ := open_string Try.underlying9 (hval 0 9 v0 rfl rfl) h0
  refine (walk a0 W w0).mono fun e W' ⟨he, hb⟩ => ⟨_, he, ends_true hW' rfl (by kernel_rfl) ?_ (by kernel_rfl) hb⟩
  intro xs hxs
  match xs, hxs with
  | [_], _ => rfl

theorem proved : Rows.WordCutsSaid :=
  OpenClaim.holds_of_wide 4 Try.f4 rfl rfl rfl rfl rfl rfl rfl ⟨rfl, rfl, rfl, rfl, rfl⟩ rfl rfl rfl rfl rfl (by kernel_rfl) Try.func4 (by kernel_rfl)
    (of_decide_eq_true (by kernel_rfl)) (by unfold Func.isWrapper; first | (rw [if_pos (by decide +kernel)]; kernel_rfl) | (rw [if_neg (by decide +kernel)]; exact ⟨rfl, rfl⟩))
    (fun os started H enc _ => lifted os started H enc)
end Go.Proofs.Ytjkjbibfaekklaa.lawWordCuts
