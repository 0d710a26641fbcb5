/- 'RxfactBounds' answers true for every list of steps and every word: a word that is said is neither too short nor too long, begins with one of the first bytes, and has bytes that are used alone. Conditions: the listed table math/bits.deBruijn64tab holds what its initialiser lays (listed and tied). -/
import Derived.Test.YthkboclooplpeaaGreatDoorRf41
import Derived.Test.YthkboclooplpeaaGreatDoorRf21
import Derived.Test.YthkboclooplpeaaGreatDoorRf44
namespace Go.Proofs.YthkboclooplpeaaGreatDoor
open Go.RowKit Go.Lib Go.Joins

theorem has_nat (f : Nat → Bool) (k : Nat) (w : World) (h1 : k < 256) : Calls Tryz.prog 29 #[(.agg #[.int .u64 (word (f) 0), .int .u64 (word (f) 1), .int .u64 (word (f) 2), .int .u64 (word (f) 3)]), .int .u8 (k : Int)] w fun e w' => e = .returned (.bool (f k)) ∧ Below w.heap.size w w' := by
  have := has_calls f k w (by omega) (by omega)
  rwa [Int.toNat_natCast] at this
def loB (L : List Stp) : Int := if (measV L).2 = 0 then shE (treeE L) else -1
def hiB (L : List Stp) : Int := if (measV L).2 = 0 then loE (treeE L) else -1
def nuB (L : List Stp) : Bool := if (measV L).2 = 0 then nul (treeE L) else false
def syB (L : List Stp) (s : ByteArray) : Bool := lastIs (endsF L s 0) s.size
theorem byN_mem (s : ByteArray) (k : Nat) (h : k < s.size) : s[k].toNat ∈ byN s := by
  have e := byN_drop s k h
  exact List.mem_of_mem_drop (by rw [e]; exact List.mem_cons_self ..)
theorem bounds_facts {L : List Stp} (wL : ∀ s ∈ L, s.wide) (s : ByteArray) :
    -1 ≤ loB L ∧ (loB L = -1 ↔ hiB L = -1) ∧ (0 ≤ hiB L → loB L ≤ hiB L) ∧ -2 ≤ hiB L ∧ (nuB L = true ↔ loB L = 0) ∧ (loB L = -1 → sameSet (letF L).used fNone = true) ∧
    (syB L s = true → loB L ≠ -1 ∧ loB L ≤ s.size ∧ (hiB L = -2 ∨ (s.size : Int) ≤ hiB L) ∧ (∀ k (h : k < s.size), (letF L).used s[k].toNat = true) ∧ ∀ k (h : k < s.size), k = 0 → (letF L).first s[k].toNat = true) := by
  unfold loB hiB nuB syB letF
  rw [says_lang wL]
  by_cases hz : (measV L).2 = 0
  · simp only [if_pos hz]
    obtain ⟨_, hok, _⟩ := tree_of (meas_expr hz).2 wL
    generalize treeE L = T at *
    have h1 := sh_range T
    have h2 := lo_range T
    have h3 := sh_lo T hok
    refine ⟨h1.1, h3.1, h3.2, h2.1, nul_sh T hok, fun h => ?_, fun h => ?_⟩
    · have hs : (letE T).some = false := by
        rw [Bool.eq_false_iff]
        exact fun e => (let_some T hok).1 e h
      exact same_of fun n hn => (let_none T hok hs n hn).2
    · obtain ⟨_, h⟩ := h
      have h4 := sh_le T hok _ h
      have h5 := lo_ge T hok _ h
      rw [byN_len] at h4 h5
      refine ⟨h4.1, h4.2, h5.2, fun k hk => let_used T hok _ h _ (byN_mem s k hk), fun k hk h0 => ?_⟩
      subst h0
      have e := byN_drop s 0 hk
      rw [List.drop_zero] at e
      rw [e] at h
      exact let_first T hok _ _ h
  · simp only [if_neg hz]
    refine ⟨by omega, by simp, by omega, by omega, by simp, fun _ => same_of fun _ _ => rfl, fun h => absurd h.1 hz⟩
set_option maxHeartbeats 16000000 in
set_option maxRecDepth 100000 in
theorem walkBounds (a0 : Option Addr) (len0 cap0 : Nat) (L : List Stp) (s : ByteArray) (w : World) (h : SlX (fun b => b < w.heap.size) w (.slice a0 len0 cap0) L ∧ ∀ s ∈ L, s.fit) (_ : s.size ≤ maxLen) (ht : Tab w) :
    Calls Tryz.prog 6 #[.slice a0 len0 cap0, .string s] w fun e w' => e = .returned (.bool true) ∧ Below w.heap.size w w' := by
  obtain ⟨hX, hfit⟩ := h
  have hwd : ∀ s ∈ L, s.wide := fun s hs => fit_wide (hfit s hs)
  have HF := hidden (few_calls hX)
  have HTB := hidden ht
  have HX := hidden (fun W (hb : Below w.heap.size w W) => hX.later hb)
  have HWD := hidden hwd
  clear ht hX hwd hfit
  by_cases h80 : L.length ≤ 80
  case neg =>
    rw [decide_eq_false h80] at HF
    clear h80
    go_enter Tryz.func6, Tryz.ntmps6
    go_wp2_with fail
    refine (HF.out).mono ?_
    rintro e w1 ⟨rfl, rfl⟩
    go_wp2_with fail
    refine (knows_calls _ (HTB.out.below (Below.refl _ _))).mono ?_
    rintro e w99 ⟨rfl, hb99⟩
    go_wp2
    go_ret
    exact ⟨rfl, below_after (Below.refl _ _) hb99⟩
  rw [decide_eq_true h80] at HF
  clear h80
  by_cases h40 : 40 < s.size
  case pos =>
    have q0 : decide ((40 : Int) < s.size) = true := decide_eq_true (by omega)
    clear h40
    go_enter Tryz.func6, Tryz.ntmps6
    go_wp2_with fail
    refine (HF.out).mono ?_
    rintro e w1 ⟨rfl, rfl⟩
    go_wp2_with fail
    refine (knows_calls _ (HTB.out.below (Below.refl _ _))).mono ?_
    rintro e w99 ⟨rfl, hb99⟩
    go_wp2
    go_ret
    exact ⟨rfl, below_after (Below.refl _ _) hb99⟩
  have q0 : decide ((40 : Int) < s.size) = false := decide_eq_false (by omega)
  obtain ⟨b1, b2, b3, b4, b5, b6, b7⟩ := bounds_facts HWD.out s
  have SH := hidden (fun W (hb : Below w.heap.size w W) => Shortest_calls (HX.out W hb) (fun b hb => hb) HWD.out)
  have LO := hidden (fun W (hb : Below w.heap.size w W) => Longest_calls (HX.out W hb) (fun b hb => hb) HWD.out)
  have NU := hidden (fun W (hb : Below w.heap.size w W) => Nullable_calls (HX.out W hb) (fun b hb => hb) HWD.out)
  have US := hidden (fun W (hb : Below w.heap.size w W) => Used_calls (HX.out W hb) (fun b hb => hb) HWD.out)
  have FI := hidden (fun W (hb : Below w.heap.size w W) => First_calls (HX.out W hb) (fun b hb => hb) HWD.out)
  have SA := hidden (fun W (hb : Below w.heap.size w W) => Says_calls (s := s) (HX.out W hb) (fun b hb => hb) HWD.out (HTB.out.below hb) (by omega))
  change Hid (∀ W, Below w.heap.size w W → Calls Tryz.prog 15 #[.slice a0 len0 cap0] W fun e w' => e = .returned (.int .i64 (loB L)) ∧ Below W.heap.size W w') at SH
  change Hid (∀ W, Below w.heap.size w W → Calls Tryz.prog 17 #[.slice a0 len0 cap0] W fun e w' => e = .returned (.int .i64 (hiB L)) ∧ Below W.heap.size W w') at LO
  change Hid (∀ W, Below w.heap.size w W → Calls Tryz.prog 14 #[.slice a0 len0 cap0] W fun e w' => e = .returned (.bool (nuB L)) ∧ Below W.heap.size W w') at NU
  change Hid (∀ W, Below w.heap.size w W → Calls Tryz.prog 9 #[.slice a0 len0 cap0, .string s] W fun e w' => e = .returned (.bool (syB L s)) ∧ Below W.heap.size W w') at SA
  generalize loB L = lo at *
  generalize hiB L = hi at *
  generalize nuB L = nu at *
  generalize syB L s = sy at *
  generalize (letF L).used = FU at *
  generalize (letF L).first = FF at *
  have hs40 : s.size ≤ 40 := by omega
  clear h40
  by_cases hlo : lo = -1
  · have hhi := b2.1 hlo
    have hnu : nu = false := by
      rw [Bool.eq_false_iff]
      intro e
      have := b5.1 e
      omega
    have hx : sy = false := by
      rw [Bool.eq_false_iff]
      intro e
      exact (b7 e).1 hlo
    have hq := fun W => (eq_none W FU).trans (by rw [b6 hlo])
    subst hlo hhi hnu
    clear b1 b2 b3 b4 b5 b6 b7
    go_enter Tryz.func6, Tryz.ntmps6
    go_wp2_with fail
    refine (HF.out).mono ?_
    rintro e w1 ⟨rfl, rfl⟩
    go_wp2_with fail
    refine (SH.out _ (Below.refl _ _)).mono ?_
    rintro e w1 ⟨rfl, hb1⟩
    have HB1 := hidden (hb1)
    clear hb1
    go_wp2_with fail
    refine (LO.out _ HB1.out).mono ?_
    rintro e w2 ⟨rfl, hb2⟩
    have HB2 := hidden (below_after HB1.out hb2)
    clear hb2
    go_wp2_with fail
    refine (NU.out _ HB2.out).mono ?_
    rintro e w3 ⟨rfl, hb3⟩
    have HB3 := hidden (below_after HB2.out hb3)
    clear hb3
    go_wp2_with fail
    refine (US.out _ HB3.out).mono ?_
    rintro e w4 ⟨rfl, hb4⟩
    have HB4 := hidden (below_after HB3.out hb4)
    clear hb4
    go_wp2_with fail
    refine (SA.out _ HB4.out).mono ?_
    rintro e w5 ⟨rfl, hb5⟩
    rw [hx]
    have HB5 := hidden (below_after HB4.out hb5)
    clear hb5
    go_wp2_with fail
    refine (knows_calls _ (HTB.out.below HB5.out)).mono ?_
    rintro e w99 ⟨rfl, hb99⟩
    go_wp2
    go_ret
    exact ⟨rfl, below_after HB5.out hb99⟩
  · have l0 : 0 ≤ lo := by omega
    have hhi : ¬ hi = -1 := fun e => hlo (b2.2 e)
    have d1 : decide (lo < 0) = false := decide_eq_false (by omega)
    have d2 : (hi == -1) = false := by simp; omega
    have d3 : (nu == (lo == 0)) = true := by
      have h : nu = (lo == 0) := by
        rw [Bool.eq_iff_iff, b5]
        simp
      rw [h]
      simp
    have d4 : decide (0 ≤ lo) = true := decide_eq_true l0
    have hhc : (decide (0 ≤ hi) = true ∧ decide (hi < lo) = false) ∨ (decide (0 ≤ hi) = false) := by
      by_cases h : 0 ≤ hi
      · exact .inl ⟨decide_eq_true h, decide_eq_false (by have := b3 h; omega)⟩
      · exact .inr (decide_eq_false h)
    cases hx : sy with
    | false =>
      clear b1 b2 b3 b4 b5 b6 b7 hlo hhi l0
      rcases hhc with ⟨d5, d6⟩ | d5
      all_goals
        go_enter Tryz.func6, Tryz.ntmps6
        go_wp2_with fail
        refine (HF.out).mono ?_
        rintro e w1 ⟨rfl, rfl⟩
        go_wp2_with fail
        refine (SH.out _ (Below.refl _ _)).mono ?_
        rintro e w1 ⟨rfl, hb1⟩
        have HB1 := hidden (hb1)
        clear hb1
        go_wp2_with fail
        refine (LO.out _ HB1.out).mono ?_
        rintro e w2 ⟨rfl, hb2⟩
        have HB2 := hidden (below_after HB1.out hb2)
        clear hb2
        go_wp2_with fail
        refine (NU.out _ HB2.out).mono ?_
        rintro e w3 ⟨rfl, hb3⟩
        have HB3 := hidden (below_after HB2.out hb3)
        clear hb3
        go_wp2_with fail
        refine (SA.out _ HB3.out).mono ?_
        rintro e w4 ⟨rfl, hb4⟩
        rw [hx]
        have HB4 := hidden (below_after HB3.out hb4)
        clear hb4
        go_wp2_with fail
        refine (knows_calls _ (HTB.out.below HB4.out)).mono ?_
        rintro e w99 ⟨rfl, hb99⟩
        go_wp2
        go_ret
        exact ⟨rfl, below_after HB4.out hb99⟩
    | true =>
      obtain ⟨_, c2, c3, c4, c5⟩ := b7 hx
      have HUS := hidden c4
      have HFI := hidden c5
      have d7 : decide (lo ≤ (s.size : Int)) = true := decide_eq_true c2
      have hhe : (hi == -2) = true ∨ ((hi == -2) = false ∧ decide ((s.size : Int) ≤ hi) = true) := by
        by_cases h : hi = -2
        · exact .inl (by simp [h])
        · refine .inr ⟨by simp [h], decide_eq_true ?_⟩
          rcases c3 with e | e
          · exact absurd e h
          · exact e
      have HHE := hidden hhe
      clear b1 b2 b3 b4 b5 b6 b7 hlo hhi l0 c2 c3 c4 c5 hhe
      rcases hhc with ⟨d5, d6⟩ | d5
      all_goals
        go_enter Tryz.func6, Tryz.ntmps6
        go_wp2_with fail
        refine (HF.out).mono ?_
        rintro e w1 ⟨rfl, rfl⟩
        go_wp2_with fail
        refine (SH.out _ (Below.refl _ _)).mono ?_
        rintro e w1 ⟨rfl, hb1⟩
        have HB1 := hidden (hb1)
        clear hb1
        go_wp2_with fail
        refine (LO.out _ HB1.out).mono ?_
        rintro e w2 ⟨rfl, hb2⟩
        have HB2 := hidden (below_after HB1.out hb2)
        clear hb2
        go_wp2_with fail
        refine (NU.out _ HB2.out).mono ?_
        rintro e w3 ⟨rfl, hb3⟩
        have HB3 := hidden (below_after HB2.out hb3)
        clear hb3
        go_wp2_with fail
        refine (SA.out _ HB3.out).mono ?_
        rintro e w4 ⟨rfl, hb4⟩
        rw [hx]
        have HB4 := hidden (below_after HB3.out hb4)
        clear hb4
        go_wp2
        go_loopw [7] (fun i wr => ∃ k : Nat, k ≤ s.size ∧ i = .int .i64 k ∧ Below w.heap.size w wr) (fun i _ => s.size - (intOf i).toNat)
        case atStart => exact ⟨0, by omega, rfl, HB4.out⟩
        case round =>
          obtain ⟨k, hk, rfl, hb⟩ := hrel
          have HB := hidden hb
          clear hb
          by_cases hlt : k < s.size
          · have hu := HUS.out k hlt
            have hi0 := HFI.out k hlt
            obtain ⟨c, hc⟩ : ∃ c, c = (s[k]'hlt).toNat := ⟨_, rfl⟩
            have hc256 : c < 256 := by rw [hc]; exact UInt8.toNat_lt _
            rw [← hc] at hu hi0
            have hx : ((s[k]'hlt).toNat : Int) = (c : Int) := by rw [hc]
            have HH := hidden (fun W (f : Nat → Bool) => has_nat f c W hc256)
            clear hc
            have HLT := hidden hlt
            have d0 : decide ((k : Int) < (s.size : Int)) = true := decide_eq_true (by omega)
            have d0' : decide (k < s.size) = true := decide_eq_true hlt
            rcases Nat.eq_zero_or_pos k with h0 | h0
            case' inl =>
              have hz : ((k : Int) == 0) = true := by simp; omega
              have hf := hi0 h0
            case' inr =>
              have hz : ((k : Int) == 0) = false := by simp; omega
            all_goals
              clear h0
              go_wp2
              refine wp_region_later (by kernel_rfl) (by kernel_rfl) ?_
              repeat (go_big_quiet_step (first | exact Later.calls (US.out _ (below_after HB.out (Later.ok _))) | exact Later.calls (FI.out _ (below_after HB.out (Later.ok _))) | exact Later.calls (HH.out _ _)))
              refine wpQuiet_nil ?_
              rintro _ ⟨⟨w20, hb20⟩, rfl⟩
              have HB20 := hidden (below_after HB.out hb20)
              clear hb20
              go_wp2
              go_roundw
              case rel => exact ⟨k + 1, by have := HLT.out; omega, by go_num, HB20.out⟩
              case measure => have := HLT.out; simp [intOf]; omega
          · have d0 : decide ((k : Int) < (s.size : Int)) = false := decide_eq_false (by omega)
            have d0' : decide (k < s.size) = false := decide_eq_false hlt
            rcases HHE.out with d8 | ⟨d8, d9⟩
            all_goals
              go_wp2_with fail
              refine (knows_calls _ (HTB.out.below HB.out)).mono ?_
              rintro e w99 ⟨rfl, hb99⟩
              go_wp2
              go_ret
              exact ⟨rfl, below_after HB.out hb99⟩
namespace lawRxfactBounds
open Go.ChangeShapes Go.WideShapes Go.ChangeAt Go.RowKit Go.Deep
open Go.ChangeMaps (open_string shut_string)

set_option maxRecDepth 100000 in
theorem lifted (os : Os) (started : os.Started) (H : Type) (enc : TypeId × Value → H) :
    ReturnsInHanded {} Tryz.checked os 6 .any (fun w args => (Rows.rxfactBoundsSpec.pre enc Tryz.prog Tryz.f6 Rows.rxfactBoundsRow.domain false w args ∧ laidMetH Tryz.prog [("math/bits.deBruijn64tab", Rows.laid_math_bits_deBruijn64tab)] w) ∧ sizedMet enc Tryz.prog Tryz.f6 (OpenSpec.ofChange Rows.rxfactBoundsSpec) false w args)
      (Rows.rxfactBoundsSpec.post enc Tryz.prog Tryz.f6 false true false false) := by
  refine returnsInHanded_of_change_and (C := Tryz.checked) (X := fun w _ => laidMetH Tryz.prog [("math/bits.deBruijn64tab", Rows.laid_math_bits_deBruijn64tab)] w) (fun _ _ _ hh h => h.of_heap hh) own started (by kernel_rfl) Tryz.func6
    (ChangeSpec.witness_shaped (enc := enc) (C := Tryz.checked) (os := os) (X := fun w _ => laidMetH Tryz.prog [("math/bits.deBruijn64tab", Rows.laid_math_bits_deBruijn64tab)] w) false (World.laidAll Tryz.prog os [("math/bits.deBruijn64tab", Rows.laid_math_bits_deBruijn64tab)]) #[.slice none 0 0, .string ⟨#[]⟩] 8 (World.laidAll_os _ _ _)
      (World.shaped_of_ZipB (by kernel_rfl) (by kernel_rfl)) (by kernel_rfl) (by kernel_rfl) (by kernel_rfl)
      (by rw [MakeChecks.laidMetH_plain _ _ _ (by kernel_rfl)]; exact laidMet_laidAll _ (by kernel_rfl) (by kernel_rfl))) ?_
  intro W base args ds gs before hval0 hW hcnd _ hL _
  have hval : ∀ (j : Nat) t v, Tryz.f6.params[j]? = some t → args[j]? = some v → Value.okWide Tryz.prog W .any base t v := hval0
  have hW' : DataW.Whole enc Tryz.prog Tryz.f6.params.toList Rows.rxfactBoundsSpec.vars false W args.toList ds gs before := hW
  obtain ⟨p, q, hA0, hV, rfl, hfz, hnd⟩ := hW
  have hA : DataW.TrodAll enc Tryz.prog W 0 (fun _ => true) true Tryz.f6.params.toList args.toList ds p := hA0
  have ht : Tab W := of_laid (by kernel_rfl) hL
  rw [Tryz.params6] at hA hval
  obtain ⟨v0, vs0, d0, ds0, p0, q0, hargs, hd0, hp0, h0, r0⟩ := trodAll_cons hA
  obtain ⟨v1, vs1, d1, ds1, p1, q1, rfl, hd1, hp1, h1, r1⟩ := trodAll_cons r0
  obtain ⟨rfl, _, _⟩ := trodAll_nil r1
  obtain rfl : args = #[v0, v1] := by cases args; simp_all
  obtain ⟨a0, len0, cap0, rfl⟩ := okWide_slice Tryz.underlying22 (hval 0 22 v0 rfl rfl)
  obtain ⟨z0, w0⟩ := open_rx h0
  obtain ⟨a1, rfl, _, _, w1⟩ := open_string Tryz.underlying9 (hval 1 9 v1 rfl rfl) h1
  refine (walkBounds a0 len0 cap0 z0 a1 W w0 w1 ht).mono fun e W' ⟨he, hb⟩ => ⟨_, he, ends_true hW' rfl (by kernel_rfl) ?_ (by kernel_rfl) hb⟩
  intro xs hxs
  match xs, hxs with
  | [_, _], _ => rfl

theorem proved : Rows.RxfactBoundsSaid :=
  OpenClaim.holds_of_wide 6 Tryz.f6 rfl rfl rfl rfl rfl rfl rfl ⟨rfl, rfl, rfl, rfl, rfl⟩ rfl rfl rfl rfl rfl (by kernel_rfl) Tryz.func6 (by kernel_rfl)
    (of_decide_eq_true (by kernel_rfl)) (by unfold Func.isWrapper; first | (rw [if_pos (by decide +kernel)]; kernel_rfl) | (rw [if_neg (by decide +kernel)]; exact ⟨rfl, rfl⟩))
    (fun os started H enc _ => lifted os started H enc)

/-- the card: the row, and what it lists tied to the program's text -/
theorem card : Rows.RxfactBoundsCardSaid :=
  Claim7.holds_tied_plain_at .later [] [.data] true (true, "caf4bdf57563e5690fd5054733d0bba01abbd8688f1d404e6c089180ab3b60b0") false
    proved (fun _ h => by cases h) (by kernel_rfl) (fun _ h => by cases h) rxfactBounds_row_tie rfl ⟨rfl, rfl⟩ (by kernel_rfl) rfl
    (fun f fn hf hfn => by
      obtain rfl : f = 6 := Option.some.inj ((show Tryz.prog.funcNamed "facsimile/facsimilelaw09.RxfactBounds" = some 6 by kernel_rfl).symm.trans hf) |>.symm
      obtain rfl : fn = Tryz.f6 := (Option.some.inj (Tryz.func6.symm.trans hfn)).symm
      exact ⟨by kernel_rfl, fun j t ht => by
        rw [Tryz.params6] at ht
        have hm : t ∈ [22, 9] := by simpa using Array.mem_of_getElem? ht
        have hall : ([22, 9].all fun u => !Tryz.prog.wantsStandIn u) = true := by kernel_rfl
        exact (show Tryz.prog.wantsStandIn t = false by simpa using List.all_eq_true.1 hall t hm)⟩)
    (by kernel_rfl)

end lawRxfactBounds
end Go.Proofs.YthkboclooplpeaaGreatDoor
