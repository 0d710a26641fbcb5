/- 'SpotTells' answers true for every list of steps and every number: Sets, First, Last, Follow and Free answer what the document says. Conditions: the listed table math/bits.deBruijn64tab holds what its initialiser lays (listed and tied). -/
import Derived.Test.YtbokhofdgdcpdaaDoorSp21
namespace Go.Proofs.YtbokhofdgdcpdaaDoor
open Go.RowKit Go.Lib Go.Joins
theorem same09_self {B : Nat} {va vb : Value} {l : List Int} {w : World} (ha : RdZ B w va l) (hb : RdZ B w vb l) : Calls Tryd.prog 13 #[va, vb] w fun e w' => e = .returned (.bool true) ∧ Below w.heap.size w w' := by
  have h := rsame09_calls ha hb
  rw [decide_eq_true rfl] at h
  exact h
/-- the cells of one set of a row -/
theorem RowS.cells {w : World} {base : Nat} {a : Option Addr} {n c : Nat} {S : List Stp} (h : RowS w base (.slice a n c) S) (k : Nat) (hk : k < S.length) : ∃ g, a = some ⟨g, 0, none⟩ ∧ g < w.heap.size ∧ w.cell? ⟨g, k * 4, none⟩ = some (.int .u64 (S.getD k default).a) ∧ w.cell? ⟨g, k * 4 + 1, none⟩ = some (.int .u64 (S.getD k default).b) ∧ w.cell? ⟨g, k * 4 + 2, none⟩ = some (.int .u64 (S.getD k default).c) ∧ w.cell? ⟨g, k * 4 + 3, none⟩ = some (.int .u64 (S.getD k default).d) := by
  rcases ownsRow_forms h with ⟨_, h0⟩ | ⟨g, cap, e⟩
  · omega
  · simp only [Value.slice.injEq] at e
    obtain ⟨rfl, rfl, rfl⟩ := e
    have hlt := (World.ownsRow.lt h g rfl).2
    have key : ∀ (S : List Stp) (k j : Nat) (u : Value), k < S.length → (setC (S.getD k default))[j]? = some u → (S.flatMap setC)[k * 4 + j]? = some u := by
      intro S
      induction S with
      | nil => intro k j u hk; simp at hk
      | cons y r ih =>
        intro k j u hk hu
        have hj : j < 4 := by
          have := (List.getElem?_eq_some_iff.1 hu).1
          simpa [setC] using this
        have hy : (setC y).length = 4 := rfl
        rw [List.flatMap_cons]
        cases k with
        | zero =>
          rw [Nat.zero_mul, Nat.zero_add, List.getElem?_append_left (by omega)]
          simpa using hu
        | succ k =>
          rw [List.getElem?_append_right (by omega), hy, show (k + 1) * 4 + j - 4 = k * 4 + j by omega]
          exact ih k j u (by simpa using hk) (by simpa using hu)
    have at4 : ∀ j u, (setC (S.getD k default))[j]? = some u → w.cell? ⟨g, k * 4 + j, none⟩ = some u := fun j u hu => by
      have hj : j < 4 := by
        have := (List.getElem?_eq_some_iff.1 hu).1
        simpa [setC] using this
      rw [World.ownsRow.cellAt h (k * 4 + j) (by omega)]
      exact key S k j u hk hu
    exact ⟨g, rfl, hlt, at4 0 _ rfl, at4 1 _ rfl, at4 2 _ rfl, at4 3 _ rfl⟩
set_option maxHeartbeats 8000000 in
set_option maxRecDepth 100000 in
theorem walkTells (a0 : Option Addr) (len0 cap0 : Nat) (L : List Stp) (i : Int) (w : World) (h : SlX (fun b => b < w.heap.size) w (.slice a0 len0 cap0) L ∧ ∀ s ∈ L, s.fit) (_ : -9223372036854775808 ≤ i ∧ i ≤ 9223372036854775807) (ht : Tab w) :
    Calls Tryd.prog 3 #[.slice a0 len0 cap0, .int .i64 i] w fun e w' => e = .returned (.bool true) ∧ Below w.heap.size w w' := by
  obtain ⟨hX, hfit⟩ := h
  have hwd : ∀ s ∈ L, s.wide := fun s hs => fit_wide (hfit s hs)
  have hlen := hX.len
  have HTB := hidden ht
  have HX := hidden (fun W (hb : Below w.heap.size w W) => hX.later hb)
  have HWD := hidden hwd
  clear ht hX hwd hfit
  by_cases h60 : 60 < L.length
  · have q0 : decide ((60 : Int) < (len0 : Int)) = true := decide_eq_true (by omega)
    have q1 : decide (60 < len0) = true := decide_eq_true (by omega)
    clear h60 hlen
    go_enter Tryd.func3, Tryd.ntmps3
    go_wp2_with fail
    refine (knows10_calls _ HTB.out).mono ?_
    rintro e w1 ⟨rfl, hb1⟩
    go_wp2
    go_ret
    exact ⟨rfl, hb1⟩
  have q0 : decide ((60 : Int) < (len0 : Int)) = false := decide_eq_false (by omega)
  have q1 : decide (60 < len0) = false := decide_eq_false (by omega)
  obtain ⟨SL, hSL⟩ : ∃ SL, SL = if (measV L).2 = 0 then sets L else [] := ⟨_, rfl⟩
  have hsl60 : SL.length ≤ 1000 := by
    rw [hSL]
    split
    · have := List.length_filter_le (fun s : Stp => s.k == 1) L
      unfold sets
      omega
    · simp
  have HS := hidden (fun W (hb : Below w.heap.size w W) => (show Calls Tryd.prog 11 #[.slice a0 len0 cap0] W (RetS W SL) from by
    rw [hSL]
    by_cases hz : (measV L).2 = 0
    · rw [if_pos hz]; exact sets_calls (HX.out W hb) (fun b hb => hb) hz (by omega)
    · rw [if_neg hz]; exact sets_none (HX.out W hb) (fun b hb => hb) hz))
  have HRS := hidden (fun W (hb : Below w.heap.size w W) => (show Calls Tryd.prog 12 #[.slice a0 len0 cap0] W (RetS W SL) from by
    rw [hSL]
    by_cases hz : (measV L).2 = 0
    · rw [if_pos hz]; exact rsets_calls (HX.out W hb) (fun b hb => hb) hz (by omega)
    · rw [if_neg hz]; exact rsets_none (HX.out W hb) (fun b hb => hb) hz))
  have HF := hidden (fun W (hb : Below w.heap.size w W) => spFirst_calls (HX.out W hb) (fun b hb => hb) HWD.out (HTB.out.below hb))
  have HRF := hidden (fun W (hb : Below w.heap.size w W) => rFirst_calls (HX.out W hb) (fun b hb => hb) HWD.out)
  have HL := hidden (fun W (hb : Below w.heap.size w W) => spLast_calls (HX.out W hb) (fun b hb => hb) HWD.out (HTB.out.below hb))
  have HRL := hidden (fun W (hb : Below w.heap.size w W) => rLast_calls (HX.out W hb) (fun b hb => hb) HWD.out)
  have HO := hidden (fun W (hb : Below w.heap.size w W) => spFollow_calls i (HX.out W hb) (fun b hb => hb) HWD.out (HTB.out.below hb))
  have HRO := hidden (fun W (hb : Below w.heap.size w W) => rFollow_calls i (HX.out W hb) (fun b hb => hb) HWD.out)
  have HN := hidden (fun W (hb : Below w.heap.size w W) => spFree_calls (HX.out W hb) (fun b hb => hb) HWD.out)
  have HRN := hidden (fun W (hb : Below w.heap.size w W) => rFree_calls (HX.out W hb) (fun b hb => hb) HWD.out)
  generalize spI (elems (prtL L).first) = XF at *
  generalize spI (elems (prtL L).last) = XL at *
  generalize spI (elems (folL i L)) = XO at *
  generalize (prtL L).free = fr at *
  have hfr : (fr == fr) = true := by simp
  obtain ⟨m, hm⟩ : ∃ m, m = SL.length := ⟨_, rfl⟩
  have HM := hidden hm
  clear hSL hlen h60
  go_enter Tryd.func3, Tryd.ntmps3
  go_wp2_with fail
  refine (HS.out _ (Below.refl _ _)).mono ?_
  rintro e w1 ⟨u, rfl, hr1, hb1⟩
  obtain ⟨a1, c1, rfl⟩ := rowS_slice hr1
  have HR1 := hidden hr1
  have HB1 := hidden hb1
  rw [← hm]
  rw [← hm] at hsl60
  clear hr1 hb1
  go_wp2_with fail
  refine (HRS.out _ HB1.out).mono ?_
  rintro e w2 ⟨u, rfl, hr2, hb2⟩
  obtain ⟨a2, c2, rfl⟩ := rowS_slice hr2
  have HR1' := hidden (HR1.out.kept hb2)
  have HR2 := hidden hr2
  have HB2 := hidden (below_after HB1.out hb2)
  rw [← hm]
  clear hr2 hb2 hm
  have hmm : ((m : Int) != (m : Int)) = false := by simp
  go_wp2
  go_loopw [7] (fun j wr => ∃ k : Nat, k ≤ m ∧ j = .int .i64 k ∧ Below w2.heap.size w2 wr) (fun j _ => m - (intOf j).toNat)
  case atStart => exact ⟨0, by omega, rfl, Below.refl _ _⟩
  case round =>
    obtain ⟨k, hk, rfl, hb⟩ := hrel
    have HB := hidden hb
    by_cases hlt : k < m
    · obtain ⟨ga, rfl, hga, x0, x1, x2, x3⟩ := HR1'.out.cells k (by rw [← HM.out]; exact hlt)
      obtain ⟨gb, rfl, hgb, y0, y1, y2, y3⟩ := HR2.out.cells k (by rw [← HM.out]; exact hlt)
      generalize SL.getD k default = s at *
      have d0 := (hb.cell (p := ⟨ga, k * 4, none⟩) hga).trans x0
      have d1 := (hb.cell (p := ⟨ga, k * 4 + 1, none⟩) hga).trans x1
      have d2 := (hb.cell (p := ⟨ga, k * 4 + 2, none⟩) hga).trans x2
      have d3 := (hb.cell (p := ⟨ga, k * 4 + 3, none⟩) hga).trans x3
      have f0 := (hb.cell (p := ⟨gb, k * 4, none⟩) hgb).trans y0
      have f1 := (hb.cell (p := ⟨gb, k * 4 + 1, none⟩) hgb).trans y1
      have f2 := (hb.cell (p := ⟨gb, k * 4 + 2, none⟩) hgb).trans y2
      have f3 := (hb.cell (p := ⟨gb, k * 4 + 3, none⟩) hgb).trans y3
      have hq := fun W => (eq_four W s.a s.b s.c s.d s.a s.b s.c s.d).trans (show _ = Result.ok true W by simp)
      have hlt' := hlt
      clear hb x0 x1 x2 x3 y0 y1 y2 y3 hga hgb
      go_wp2
      go_region
      all_goals
        go_wp2
        go_roundw
        case rel => exact ⟨k + 1, by omega, by go_num, below_drawn HB.out 1⟩
        case measure => simp [intOf]; omega
    · obtain rfl : k = m := by omega
      have HB3 := hidden (below_after HB2.out HB.out)
      clear hb
      go_wp2_with fail
      refine (HF.out _ HB3.out).mono ?_
      rintro e w4 ⟨u, rfl, hr, hb⟩
      obtain ⟨ax4, cx4, rfl⟩ := hr.form
      have HX4 := hidden hr.reads
      have HB4 := hidden (below_after HB3.out hb)
      clear hr hb
      go_wp2_with fail
      refine (HRF.out _ HB4.out).mono ?_
      rintro e w5 ⟨u, rfl, hr, hb⟩
      obtain ⟨ay4, cy4, rfl⟩ := hr.form
      have HY4 := hidden hr.reads
      have HZ4 := hidden (HX4.out.later hb)
      have HB5 := hidden (below_after HB4.out hb)
      clear hr hb
      go_wp2_with fail
      refine (same09_self HZ4.out HY4.out).mono ?_
      rintro e w6 ⟨rfl, hb⟩
      have HB6 := hidden (below_after HB5.out hb)
      clear hb
      go_wp2_with fail
      refine (HL.out _ HB6.out).mono ?_
      rintro e w7 ⟨u, rfl, hr, hb⟩
      obtain ⟨ax7, cx7, rfl⟩ := hr.form
      have HX7 := hidden hr.reads
      have HB7 := hidden (below_after HB6.out hb)
      clear hr hb
      go_wp2_with fail
      refine (HRL.out _ HB7.out).mono ?_
      rintro e w8 ⟨u, rfl, hr, hb⟩
      obtain ⟨ay7, cy7, rfl⟩ := hr.form
      have HY7 := hidden hr.reads
      have HZ7 := hidden (HX7.out.later hb)
      have HB8 := hidden (below_after HB7.out hb)
      clear hr hb
      go_wp2_with fail
      refine (same09_self HZ7.out HY7.out).mono ?_
      rintro e w9 ⟨rfl, hb⟩
      have HB9 := hidden (below_after HB8.out hb)
      clear hb
      go_wp2_with fail
      refine (HO.out _ HB9.out).mono ?_
      rintro e w10 ⟨u, rfl, hr, hb⟩
      obtain ⟨ax10, cx10, rfl⟩ := hr.form
      have HX10 := hidden hr.reads
      have HB10 := hidden (below_after HB9.out hb)
      clear hr hb
      go_wp2_with fail
      refine (HRO.out _ HB10.out).mono ?_
      rintro e w11 ⟨u, rfl, hr, hb⟩
      obtain ⟨ay10, cy10, rfl⟩ := hr.form
      have HY10 := hidden hr.reads
      have HZ10 := hidden (HX10.out.later hb)
      have HB11 := hidden (below_after HB10.out hb)
      clear hr hb
      go_wp2_with fail
      refine (same09_self HZ10.out HY10.out).mono ?_
      rintro e w12 ⟨rfl, hb⟩
      have HB12 := hidden (below_after HB11.out hb)
      clear hb
      go_wp2_with fail
      refine (HN.out _ HB12.out).mono ?_
      rintro e w13 ⟨rfl, hb⟩
      have HB13 := hidden (below_after HB12.out hb)
      clear hb
      go_wp2_with fail
      refine (HRN.out _ HB13.out).mono ?_
      rintro e w90 ⟨rfl, rfl⟩
      go_wp2_with fail
      refine (knows10_calls _ (HTB.out.below HB13.out)).mono ?_
      rintro e w99 ⟨rfl, hb99⟩
      go_wp2
      go_ret
      exact ⟨rfl, below_after HB13.out hb99⟩
namespace lawSpotTells
open Go.ChangeShapes Go.WideShapes Go.ChangeAt Go.RowKit Go.Deep
open Go.ChangeMaps (open_string shut_string)

set_option maxRecDepth 100000 in
theorem lifted (os : Os) (started : os.Started) (H : Type) (enc : TypeId × Value → H) :
    ReturnsInHanded {} Tryd.checked os 3 .any (fun w args => (Rows.spotTellsSpec.pre enc Tryd.prog Tryd.f3 Rows.spotTellsRow.domain false w args ∧ laidMetH Tryd.prog [("math/bits.deBruijn64tab", Rows.laid_math_bits_deBruijn64tab)] w) ∧ sizedMet enc Tryd.prog Tryd.f3 (OpenSpec.ofChange Rows.spotTellsSpec) false w args)
      (Rows.spotTellsSpec.post enc Tryd.prog Tryd.f3 false true false false) := by
  refine returnsInHanded_of_change_and (C := Tryd.checked) (X := fun w _ => laidMetH Tryd.prog [("math/bits.deBruijn64tab", Rows.laid_math_bits_deBruijn64tab)] w) (fun _ _ _ hh h => h.of_heap hh) own started (by kernel_rfl) Tryd.func3
    (ChangeSpec.witness_shaped (enc := enc) (C := Tryd.checked) (os := os) (X := fun w _ => laidMetH Tryd.prog [("math/bits.deBruijn64tab", Rows.laid_math_bits_deBruijn64tab)] w) false (World.laidAll Tryd.prog os [("math/bits.deBruijn64tab", Rows.laid_math_bits_deBruijn64tab)]) #[.slice none 0 0, .int .i64 0] 8 (World.laidAll_os _ _ _)
      (World.shaped_of_ZipB (by kernel_rfl) (by kernel_rfl)) (by kernel_rfl) (by kernel_rfl) (by kernel_rfl)
      (by rw [MakeChecks.laidMetH_plain _ _ _ (by kernel_rfl)]; exact laidMet_laidAll _ (by kernel_rfl) (by kernel_rfl))) ?_
  intro W base args ds gs before hval0 hW hcnd _ hL _
  have hval : ∀ (j : Nat) t v, Tryd.f3.params[j]? = some t → args[j]? = some v → Value.okWide Tryd.prog W .any base t v := hval0
  have hW' : DataW.Whole enc Tryd.prog Tryd.f3.params.toList Rows.spotTellsSpec.vars false W args.toList ds gs before := hW
  obtain ⟨p, q, hA0, hV, rfl, hfz, hnd⟩ := hW
  have hA : DataW.TrodAll enc Tryd.prog W 0 (fun _ => true) true Tryd.f3.params.toList args.toList ds p := hA0
  have ht : Tab W := of_laid (by kernel_rfl) hL
  rw [Tryd.params3] at hA hval
  obtain ⟨v0, vs0, d0, ds0, p0, q0, hargs, hd0, hp0, h0, r0⟩ := trodAll_cons hA
  obtain ⟨v1, vs1, d1, ds1, p1, q1, rfl, hd1, hp1, h1, r1⟩ := trodAll_cons r0
  obtain ⟨rfl, _, _⟩ := trodAll_nil r1
  obtain rfl : args = #[v0, v1] := by cases args; simp_all
  obtain ⟨a0, len0, cap0, rfl⟩ := okWide_slice Tryd.underlying22 (hval 0 22 v0 rfl rfl)
  obtain ⟨z0, w0⟩ := open_rx h0
  obtain ⟨a1, rfl, _, _, w1⟩ := open_int Tryd.underlying3 (hval 1 3 v1 rfl rfl) h1
  refine (walkTells a0 len0 cap0 z0 a1 W w0 (wf_i64 w1) ht).mono fun e W' ⟨he, hb⟩ => ⟨_, he, ends_true hW' rfl (by kernel_rfl) ?_ (by kernel_rfl) hb⟩
  intro xs hxs
  match xs, hxs with
  | [_, _], _ => rfl

theorem proved : Rows.SpotTellsSaid :=
  OpenClaim.holds_of_wide 3 Tryd.f3 rfl rfl rfl rfl rfl rfl rfl ⟨rfl, rfl, rfl, rfl, rfl⟩ rfl rfl rfl rfl rfl (by kernel_rfl) Tryd.func3 (by kernel_rfl)
    (of_decide_eq_true (by kernel_rfl)) (by unfold Func.isWrapper; first | (rw [if_pos (by decide +kernel)]; kernel_rfl) | (rw [if_neg (by decide +kernel)]; exact ⟨rfl, rfl⟩))
    (fun os started H enc _ => lifted os started H enc)

/-- the card: the row, and what it lists tied to the program's text -/
theorem card : Rows.SpotTellsCardSaid :=
  Claim7.holds_tied_plain_at .later [] [.data] true (true, "2d7a7cdab9648aa92af065527db2f9159c0a253275d1700557e608e94f046fb4") false
    proved (fun _ h => by cases h) (by kernel_rfl) (fun _ h => by cases h) spotTells_row_tie rfl ⟨rfl, rfl⟩ (by kernel_rfl) rfl
    (fun f fn hf hfn => by
      obtain rfl : f = 3 := Option.some.inj ((show Tryd.prog.funcNamed "facsimile/facsimilelaw10.SpotTells" = some 3 by kernel_rfl).symm.trans hf) |>.symm
      obtain rfl : fn = Tryd.f3 := (Option.some.inj (Tryd.func3.symm.trans hfn)).symm
      exact ⟨by kernel_rfl, fun j t ht => by
        rw [Tryd.params3] at ht
        have hm : t ∈ [22, 3] := by simpa using Array.mem_of_getElem? ht
        have hall : ([22, 3].all fun u => !Tryd.prog.wantsStandIn u) = true := by kernel_rfl
        exact (show Tryd.prog.wantsStandIn t = false by simpa using List.all_eq_true.1 hall t hm)⟩)
    (by kernel_rfl)

end lawSpotTells
end Go.Proofs.YtbokhofdgdcpdaaDoor
