/- 'MunchNext' answers true for every machine, text and place: Next answers as the reference does, and the chapter's examples answer as they should. -/
import Derived.Test.YtgaadndhecokfaaMu38
namespace Go.Proofs.Ytgaadndhecokfaa
open Go.RowKit Go.Lib Go.Joins

set_option maxHeartbeats 8000000 in
set_option maxRecDepth 100000 in
theorem walkMunchNext (vn vl : Value) (D : DfaM) (s : ByteArray) (p : Int) (w : World) (h : RdDfa w.heap.size w vn vl D) (hs : s.size ≤ maxLen) (_hp : -9223372036854775808 ≤ p ∧ p ≤ 9223372036854775807) :
    Calls Try.prog 3 #[dfaA D.cls D.width vn vl, .string s, .int .i64 p] w fun e w' => e = .returned (.bool true) ∧ Below w.heap.size w w' := by
  unfold maxLen at hs
  have hnl : D.next.length ≤ 9223372036854775807 := by
    obtain ⟨_, _, e, h1, h2, _⟩ := h.next
    unfold maxLen at h2
    omega
  obtain ⟨an, cn, rfl⟩ := h.next.form
  have HRD := hidden h
  have HX0 := hidden (DfaAt.new w D.cls D.width (.slice an D.next.length cn) vl)
  have hB0 := (Below.refl w.heap.size w).alloc (Nat.le_refl _) (.cells (dfaC D.cls D.width (.slice an D.next.length cn) vl) 26)
  have HSM := hidden (smallM_calls (h.below hB0 hB0.size))
  have HB0 := hidden hB0
  have hbx := run_box_dfa D.cls D.width (.slice an D.next.length cn) vl
  obtain ⟨n, hn⟩ : ∃ n, n = D.next.length := ⟨_, rfl⟩
  rw [← hn] at HRD HX0 HB0 HSM hbx hnl ⊢
  clear h hn hB0
  go_enter Try.func3, Try.ntmps3
  go_wp2_with (refine load_dfa rfl (x := .tmp 3) rfl rfl HX0.out ?_)
  refine HSM.out.mono ?_
  rintro e wa ⟨rfl, hb1⟩
  have HX := hidden (HX0.out.below hb1)
  have HBA := hidden (below_then HB0.out HB0.out.size hb1)
  clear hb1 HX0 HB0 HSM
  cases hsm : smallM D with
  | false =>
    clear hsm
    go_wp2_with fail
    refine (knows16_calls _).mono ?_
    rintro e w2 ⟨rfl, hb2⟩
    go_wp2
    go_ret
    exact ⟨rfl, below_then HBA.out HBA.out.size hb2⟩
  | true =>
    clear hsm
    have e0 := HX.out.next
    by_cases p1 : 60 < n
    · have q2 : decide ((60 : Int) < (n : Int)) = true := decide_eq_true (by omega)
      have q3 : decide (60 < n) = true := decide_eq_true p1
      clear p1
      go_wp2_with fail
      refine (knows16_calls _).mono ?_
      rintro e w2 ⟨rfl, hb2⟩
      go_wp2
      go_ret
      exact ⟨rfl, below_then HBA.out HBA.out.size hb2⟩
    have q2 : decide ((60 : Int) < (n : Int)) = false := decide_eq_false (by omega)
    have q3 : decide (60 < n) = false := decide_eq_false p1
    by_cases p2 : 60 < s.size
    · have q4 : decide ((60 : Int) < (s.size : Int)) = true := decide_eq_true (by omega)
      have q5 : decide (60 < s.size) = true := decide_eq_true p2
      clear p1 p2
      go_wp2_with fail
      refine (knows16_calls _).mono ?_
      rintro e w2 ⟨rfl, hb2⟩
      go_wp2
      go_ret
      exact ⟨rfl, below_then HBA.out HBA.out.size hb2⟩
    have q4 : decide ((60 : Int) < (s.size : Int)) = false := decide_eq_false (by omega)
    have q5 : decide (60 < s.size) = false := decide_eq_false p2
    have hs200 : s.size ≤ 200 := by omega
    have HPN := hidden (fun W (hb : Below wa.heap.size wa W) => next16_calls s p (HRD.out.below (below_then HBA.out HBA.out.size hb) (Nat.le_trans HBA.out.size hb.size)) hs200)
    have HRN := hidden (fun W (hb : Below wa.heap.size wa W) => rnext16_calls s p (HRD.out.below (below_then HBA.out HBA.out.size hb) (Nat.le_trans HBA.out.size hb.size)) (by omega))
    obtain ⟨V, hV⟩ : ∃ V, V = nxV D s p := ⟨_, rfl⟩
    rw [← hV] at HPN HRN
    obtain ⟨t, x⟩ := V
    dsimp only at HPN HRN
    have k1 : (t == t) = true := by simp
    have k2 : (x == x) = true := by simp
    clear p1 p2 hV hs200
    go_wp2_with fail
    refine wpl_any16 (x := .tmp 3) rfl rfl (run_load_dfa HX.out) ?_
    simp only [Act.put, List.setIfInBounds_toArray, List.set_cons_zero, List.set_cons_succ]
    go_wp2_with fail
    refine (HPN.out _ (Below.refl _ _)).mono ?_
    rintro e w2 ⟨rfl, hb2⟩
    have HX2 := hidden (HX.out.below hb2)
    have HB2 := hidden hb2
    clear hb2
    go_wp2_with (refine load_dfa rfl (x := .tmp 3) rfl rfl HX2.out ?_)
    refine (HRN.out _ HB2.out).mono ?_
    rintro e w3 ⟨rfl, hb3⟩
    have HB3 := hidden (below_then HB2.out HB2.out.size hb3)
    clear hb3
    go_wp2_with fail
    refine (knows16_calls _).mono ?_
    rintro e w4 ⟨rfl, hb4⟩
    go_wp2
    go_ret
    exact ⟨rfl, below_then (below_then HBA.out HBA.out.size HB3.out) (Nat.le_trans HBA.out.size HB3.out.size) hb4⟩
namespace lawMunchNext
open Go.ChangeShapes Go.WideShapes Go.ChangeAt Go.RowKit Go.Deep
open Go.ChangeMaps (open_string shut_string)

set_option maxRecDepth 100000 in
theorem lifted (os : Os) (started : os.Started) (H : Type) (enc : TypeId × Value → H) :
    ReturnsInHanded {} Try.checked os 3 .any (Rows.munchNextSpec.pre6 enc Try.prog Try.f3 Rows.munchNextRow.domain false) (Rows.munchNextSpec.post enc Try.prog Try.f3 false true false false) := by
  refine returnsInHanded_of_change (C := Try.checked) own started (by kernel_rfl) Try.func3
    (ChangeSpec.witness6 (enc := enc) (C := Try.checked) false ⟨#[], #[dfaA (fun _ => 0) 0 (.slice none 0 0) (.slice none 0 0), .string ⟨#[]⟩, .int .i64 0], []⟩ 8 (by kernel_rfl) (by kernel_rfl) (by kernel_rfl) (by kernel_rfl)) ?_
  intro W base args ds gs before hval0 hW hcnd _
  have hval : ∀ (j : Nat) t v, Try.f3.params[j]? = some t → args[j]? = some v → Value.okWide Try.prog W .any base t v := hval0
  have hW' : DataW.Whole enc Try.prog Try.f3.params.toList Rows.munchNextSpec.vars false W args.toList ds gs before := hW
  obtain ⟨p, q, hA0, hV, rfl, hfz, hnd⟩ := hW
  have hA : DataW.TrodAll enc Try.prog W 0 (fun _ => true) true Try.f3.params.toList args.toList ds p := hA0
  have hlt : ∀ x ∈ p, x.block < W.heap.size := fun x hx => hW'.lt x (List.mem_append_left _ hx)
  rw [Try.params3] at hA hval
  obtain ⟨v0, vs0, d0, ds0, p0, q0, hargs, hd0, hp0, h0, r0⟩ := trodAll_cons hA
  obtain ⟨v1, vs1, d1, ds1, p1, q1, rfl, hd1, hp1, h1, r1⟩ := trodAll_cons r0
  obtain ⟨v2, vs2, d2, ds2, p2, q2, rfl, hd2, hp2, h2, r2⟩ := trodAll_cons r1
  obtain ⟨rfl, _, _⟩ := trodAll_nil r2
  obtain rfl : args = #[v0, v1, v2] := by cases args; simp_all
  obtain ⟨s0a, s0b, z0, rfl, w0⟩ := open_dfa (hval 0 26 v0 rfl rfl) h0
  obtain ⟨a1, rfl, _, _, w1⟩ := open_string Try.underlying9 (hval 1 9 v1 rfl rfl) h1
  obtain ⟨a2, rfl, _, _, w2⟩ := open_int Try.underlying3 (hval 2 3 v2 rfl rfl) h2
  refine (walkMunchNext s0a s0b z0 a1 a2 W w0 w1 (wf_i64 w2)).mono fun e W' ⟨he, hb⟩ => ⟨_, he, ends_true hW' rfl (by kernel_rfl) ?_ (by kernel_rfl) hb⟩
  intro xs hxs
  match xs, hxs with
  | [_, _, _], _ => rfl

theorem proved : Rows.MunchNextSaid :=
  OpenClaim.holds_of_wide 3 Try.f3 rfl rfl rfl rfl rfl rfl rfl ⟨rfl, rfl, rfl, rfl, rfl⟩ rfl rfl rfl rfl rfl (by kernel_rfl) Try.func3 (by kernel_rfl)
    (of_decide_eq_true (by kernel_rfl)) (by unfold Func.isWrapper; first | (rw [if_pos (by decide +kernel)]; kernel_rfl) | (rw [if_neg (by decide +kernel)]; exact ⟨rfl, rfl⟩))
    (fun os started H enc _ => lifted os started H enc)

end lawMunchNext
end Go.Proofs.Ytgaadndhecokfaa
