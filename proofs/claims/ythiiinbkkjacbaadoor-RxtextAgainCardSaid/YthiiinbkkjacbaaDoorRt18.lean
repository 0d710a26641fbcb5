/- TxtRefC, TxtRefS, TxtRefT, TxtRefU, put together. -/
import Derived.Test.YthiiinbkkjacbaaDoorRt10
import Derived.Test.YthiiinbkkjacbaaDoorRt14
import Derived.Test.YthiiinbkkjacbaaDoorRt05
import Derived.Test.YthiiinbkkjacbaaDoorRt17
/- The reference's characters, stretches and sets as texts. -/
namespace Go.Proofs.YthiiinbkkjacbaaDoor
open Go.RowKit

set_option maxRecDepth 100000 in
theorem seen_calls (n : Nat) (w : World) : Calls Tryd.prog 47 #[.int .u8 n] w fun e w' => e = .returned (.bool (vis n)) ∧ w = w' := by
  have hv : vis n = (decide (32 < n) && decide (n ≤ 126)) := rfl
  have HV := hidden hv
  clear hv
  by_cases h1 : 32 < n
  · have d1 : decide ((33 : Int) ≤ n) = true := decide_eq_true (by omega)
    rw [decide_eq_true h1, Bool.true_and] at HV
    have d2 : decide ((n : Int) ≤ 126) = decide (n ≤ 126) := by simp; omega
    generalize decide (n ≤ 126) = c at *
    go_enter Tryd.func47, Tryd.ntmps47
    go_wp2
    go_ret
    exact ⟨ret_b HV.out.symm, rfl⟩
  · have d1 : decide ((33 : Int) ≤ n) = false := decide_eq_false (by omega)
    rw [decide_eq_false h1, Bool.false_and] at HV
    go_enter Tryd.func47, Tryd.ntmps47
    go_wp2
    go_ret
    exact ⟨ret_b HV.out.symm, rfl⟩
set_option maxHeartbeats 2000000 in
set_option maxRecDepth 100000 in
theorem in_calls (R : List UInt8) (c : UInt8) (w : World) (hR : R.length ≤ 1000) : Calls Tryd.prog 49 #[.string (txt R), .int .u8 (c.toNat : Int)] w fun e w' => e = .returned (.bool (decide (c ∈ R))) ∧ w = w' := by
  obtain ⟨s, hs⟩ : ∃ s, s = txt R := ⟨_, rfl⟩
  have hL : s.data.toList = R := by rw [hs]; rfl
  have hsz : s.size ≤ 1000 := by rw [hs, txt_size]; exact hR
  have HRes := hidden (fun (b : Bool) (h : (c ∈ R) ↔ b = true) => (show decide (c ∈ R) = b by cases b <;> simp_all))
  rw [← hs]
  have hne : ∀ d : UInt8, d ≠ c → (((d.toNat : Int)) == (c.toNat : Int)) = false := fun d h => toNat_ne h
  have HNE := hidden hne
  have HL := hidden hL
  obtain ⟨n, hn⟩ : ∃ n : Int, n = (c.toNat : Int) := ⟨_, rfl⟩
  rw [← hn] at HNE ⊢
  have HN := hidden hn
  clear hs hL hR hne hn
  go_enter Tryd.func49, Tryd.ntmps49
  go_wp2
  go_loop [5] (fun i => ∃ k : Nat, k ≤ s.size ∧ i = .int .i64 k ∧ Hid ((c ∈ R) ↔ c ∈ R.drop k)) (fun i => s.size - (RowKit.intOf i).toNat)
  case atStart => exact ⟨0, by omega, rfl, hidden Iff.rfl⟩
  case round =>
    obtain ⟨k, hk, rfl, hm⟩ := hrel
    match hd : R.drop k with
    | [] =>
      rw [← HL.out] at hd
      have h0 := drop_nil hd
      have q0 : decide ((k : Int) < s.size) = false := decide_eq_false (by omega)
      have HF := hidden (HRes.out false (by rw [hm.out, ← HL.out, hd]; simp))
      clear hm hd
      go_wp2
      go_ret
      exact ⟨ret_b HF.out.symm, rfl⟩
    | d :: t =>
      have hd2 := hd
      rw [← HL.out] at hd2
      obtain ⟨h1, h2, h3⟩ := drop_at hd2
      obtain ⟨hp, hx⟩ := num_at h1
      have q0 : decide ((k : Int) < s.size) = true := decide_eq_true (by omega)
      have hadd : IntKind.i64.wrap ((k : Int) + 1) = (k : Int) + 1 := by rw [IntKind.wrap_i64]; omega
      by_cases hdc : d = c
      · have HF := hidden (HRes.out true (by rw [hm.out, hd, hdc]; simp))
        have q1 : ((d.toNat : Int) == n) = true := by rw [hdc, HN.out]; simp
        generalize (d.toNat : Int) = m at *
        clear hm hd hd2 h1 h2 h3 hdc
        go_wp2
        go_ret
        exact ⟨ret_b HF.out.symm, rfl⟩
      · have HM := hidden (show (c ∈ R) ↔ c ∈ R.drop (k + 1) by
          rw [hm.out, hd, ← HL.out, h2]
          simp [Ne.symm hdc])
        have q1 := HNE.out d hdc
        generalize (d.toNat : Int) = m at *
        clear hm hd hd2 h1 h2 hdc
        go_wp2
        go_round
        case rel => exact ⟨k + 1, by omega, by go_num, HM⟩
        case measure => simp [RowKit.intOf]; omega
theorem chr_nl (R : List UInt8) : chr R 10 = [92, 110] ∧ chr R 9 = [92, 116] ∧ chr R 13 = [92, 114] := ⟨rfl, rfl, rfl⟩
set_option maxHeartbeats 2000000 in
set_option maxRecDepth 100000 in
theorem rchar_calls (n : Nat) (R : List UInt8) (w : World) (hn : n < 256) (hR : R.length ≤ 1000) :
    Calls Tryd.prog 25 #[.int .u8 n, .string (txt R)] w fun e w' => e = .returned (.string (txt (chr (R ++ [92]) n))) ∧ Below w.heap.size w w' := by
  have hI := fun w => in_calls R (UInt8.ofNat n) w hR
  rw [show (((UInt8.ofNat n).toNat : Nat) : Int) = (n : Int) by rw [toNat_ofNat hn]] at hI
  have HI := hidden hI
  have HV := hidden (seen_calls n)
  have HX := hidden (fun w => rhex_calls n w (by omega) (by omega))
  have h1 := fun w a => conv_one w a
  have h2 := fun w a b => conv_two0 w a b
  clear hI
  by_cases c : n = 10 ∨ n = 9 ∨ n = 13
  · rcases c with rfl | rfl | rfl
    all_goals
      go_enter Tryd.func25, Tryd.ntmps25
      go_wp2
      go_ret
      exact ⟨rfl, Below.refl _ _⟩
  · have q0 : ((n : Int) == 10) = false := by simp; omega
    have q1 : ((n : Int) == 9) = false := by simp; omega
    have q2 : ((n : Int) == 13) = false := by simp; omega
    have hE : chr (R ++ [92]) n = if vis n = false then [92, 120, hexB (n / 16), hexB (n % 16)] else if UInt8.ofNat n ∈ R ++ [92] then [92, UInt8.ofNat n] else [UInt8.ofNat n] := by
      unfold chr
      rw [if_neg (by omega), if_neg (by omega), if_neg (by omega)]
    cases hv : vis n
    · rw [if_pos hv] at hE
      rw [hv] at HV
      have HE := hidden hE
      clear hE hv c
      go_enter Tryd.func25, Tryd.ntmps25
      go_wp2_with fail
      refine (HV.out _).mono ?_
      rintro e w1 ⟨rfl, rfl⟩
      go_wp2_with fail
      refine (HX.out _).mono ?_
      rintro e w1 ⟨rfl, hb1⟩
      go_wp2
      go_ret
      rw [HE.out]
      exact ⟨rfl, hb1⟩
    · rw [if_neg (by rw [hv]; simp)] at hE
      rw [hv] at HV
      by_cases h92 : n = 92
      · subst h92
        rw [if_pos (by simp)] at hE
        have HE := hidden hE
        clear hE hv c
        go_enter Tryd.func25, Tryd.ntmps25
        go_wp2_with fail
        refine (HV.out _).mono ?_
        rintro e w1 ⟨rfl, rfl⟩
        go_wp2
        go_ret
        rw [HE.out]
        exact ⟨rfl, by go_grown⟩
      · have q3 : ((n : Int) == 92) = false := by simp; omega
        have hm : (UInt8.ofNat n ∈ R ++ [92]) ↔ UInt8.ofNat n ∈ R := by
          simp only [List.mem_append, List.mem_singleton, or_iff_left_iff_imp]
          intro h
          have := congrArg UInt8.toNat h
          rw [toNat_ofNat hn] at this
          exact absurd this h92
        by_cases hin : UInt8.ofNat n ∈ R
        · rw [if_pos (hm.2 hin)] at hE
          rw [decide_eq_true hin] at HI
          have HE := hidden hE
          clear hE hv c hm hin h92
          go_enter Tryd.func25, Tryd.ntmps25
          go_wp2_with fail
          refine (HV.out _).mono ?_
          rintro e w1 ⟨rfl, rfl⟩
          go_wp2_with fail
          refine (HI.out _).mono ?_
          rintro e w1 ⟨rfl, rfl⟩
          go_wp2
          go_ret
          rw [HE.out]
          exact ⟨rfl, by go_grown⟩
        · rw [if_neg (fun h => hin (hm.1 h))] at hE
          rw [decide_eq_false hin] at HI
          have HE := hidden hE
          clear hE hv c hm hin h92
          go_enter Tryd.func25, Tryd.ntmps25
          go_wp2_with fail
          refine (HV.out _).mono ?_
          rintro e w1 ⟨rfl, rfl⟩
          go_wp2_with fail
          refine (HI.out _).mono ?_
          rintro e w1 ⟨rfl, rfl⟩
          go_wp2
          go_ret
          rw [HE.out]
          exact ⟨rfl, by go_grown⟩
end Go.Proofs.YthiiinbkkjacbaaDoor

/- The reference's stretches and sets as texts. -/
namespace Go.Proofs.YthiiinbkkjacbaaDoor
open Go.RowKit

theorem rchar_class (n : Nat) (w : World) (hn : n < 256) : Calls Tryd.prog 25 #[.int .u8 n, .string ⟨#[91, 93, 94, 45]⟩] w fun e w' => e = .returned (.string (txt (chr RC n))) ∧ Below w.heap.size w w' := rchar_calls n [91, 93, 94, 45] w hn (by decide)
theorem rchar_text (n : Nat) (w : World) (hn : n < 256) : Calls Tryd.prog 25 #[.int .u8 n, .string ⟨#[40, 41, 91, 93, 124, 42, 43, 63, 46]⟩] w fun e w' => e = .returned (.string (txt (chr RT n))) ∧ Below w.heap.size w w' := rchar_calls n [40, 41, 91, 93, 124, 42, 43, 63, 46] w hn (by decide)
set_option maxHeartbeats 4000000 in
set_option maxRecDepth 100000 in
theorem rshowRuns_calls (f : Nat → Bool) (w : World) :
    Calls Tryd.prog 28 #[(.agg #[.int .u64 (word (f) 0), .int .u64 (word (f) 1), .int .u64 (word (f) 2), .int .u64 (word (f) 3)])] w fun e w' => e = .returned (.string (txt (runsL (runs f)))) ∧ Below w.heap.size w w' := by
  have HR := hidden (rruns_calls f (w.alloc (.cells #[.int .u64 (word (f) 0), .int .u64 (word (f) 1), .int .u64 (word (f) 2), .int .u64 (word (f) 3)] 25)))
  have HL := hidden (runsL_le f)
  have HB0 := hidden ((Below.refl w.heap.size w).alloc (Nat.le_refl _) (.cells #[.int .u64 (word (f) 0), .int .u64 (word (f) 1), .int .u64 (word (f) 2), .int .u64 (word (f) 3)] 25))
  obtain ⟨T0, hT0⟩ : ∃ T, T = runsL (runs f) := ⟨_, rfl⟩
  rw [← hT0]
  have HT0 := hidden hT0
  clear hT0
  go_enter Tryd.func28, Tryd.ntmps28
  go_wp2_with fail
  refine HR.out.mono ?_
  rintro e w1 ⟨v, rfl, hown, hb1⟩
  have HB1 := hidden (below_after HB0.out hb1)
  rcases hown.2 with ⟨rfl, hn⟩ | ⟨g, cap, cur, rfl, hg, hgg, hncap, hcapm, hcs, htake⟩
  · have HN := hidden (show runs f = [] from List.eq_nil_of_length_eq_zero hn)
    clear hown hb1 hn
    go_wp2
    refine wp_loop_rounds 1 ?_
    rw [rounds_succ]
    go_wp2
    go_ret
    exact ⟨by rw [HT0.out, HN.out]; rfl, HB1.out⟩
  · have hget := fun k hk => pairsV_get (runs f) k hk
    have hcur : ∀ j, j < (runs f).length * 2 → cur[j]? = (pairsV (runs f))[j]? := fun j hj => by
      rw [← htake, List.getElem?_take, if_pos hj]
      simp
    have hrun := fun k (hk : k < (runs f).length) => runs_le2 (f := f) (p := (runs f).getD k (0, 0)) (by
      rw [List.getD_eq_getElem?_getD, List.getElem?_eq_getElem hk]
      exact List.getElem_mem hk)
    have hmore := fun k (hk : k < (runs f).length) => runsL_more (runs f) k hk
    have hall : runsL ((runs f).take (runs f).length) = T0 := by rw [List.take_length, HT0.out]
    clear HT0 HR
    generalize hnn : (runs f).length = n at *
    generalize runs f = L at *
    have HG := hidden (fun k hk => And.intro ((hcur (k * 2) (by omega)).trans (hget k hk).1) ((hcur (k * 2 + 1) (by omega)).trans (hget k hk).2))
    have HROW := hidden (show PairsAt w1 g cur from hgg)
    have HRUN := hidden hrun
    have HM := hidden hmore
    have HALL := hidden hall
    unfold maxLen at hcapm
    clear hown hb1 hgg hget hcur hrun hmore hall hcs htake hg hnn
    go_wp2
    go_loopw [3, 5] (fun t i wr => ∃ k : Nat, k ≤ n ∧ i = .int .i64 k ∧ t = .string (txt (runsL (L.take k))) ∧ Below w1.heap.size w1 wr) (fun _ i _ => n - (RowKit.intOf i).toNat)
    case atStart => exact ⟨0, by omega, rfl, rfl, Below.refl _ _⟩
    case round =>
      obtain ⟨k, hk, rfl, rfl, hb⟩ := hrel
      have HB := hidden hb
      have hsz := HL.out k
      have hrow := HROW.out.below hb
      clear hb
      by_cases hlt : k < n
      · obtain ⟨g0, g1⟩ := HG.out k hlt
        have HP0 := hidden (fun W (hW : PairsAt W g cur) => (cell_of_row W g (k * 2) _ _ _ hW).trans g0)
        have HP1 := hidden (fun W (hW : PairsAt W g cur) => (cell_of_row W g (k * 2 + 1) _ _ _ hW).trans g1)
        have HROWk := hidden hrow
        obtain ⟨r1, r2⟩ := HRUN.out k hlt
        have hmk := HM.out k hlt
        generalize L.getD k (0, 0) = p at *
        obtain ⟨a, b⟩ := p
        generalize runsL (L.take k) = T at *
        simp only at HP0 HP1 r1 r2
        have HMK := hidden hmk
        clear g0 g1 hmk hrow
        have m1 := hidden (fun W => rchar_class a W (by omega))
        have m2 := hidden (fun W => rchar_class b W (by omega))
        have l1 := (chr_pos RC a).2
        have l2 := (chr_pos RC b).2
        have q0 : decide ((k : Int) < n) = true := decide_eq_true (by omega)
        have hadd : IntKind.i64.wrap ((k : Int) + 1) = (k : Int) + 1 := by rw [IntKind.wrap_i64]; omega
        have hsub : IntKind.i64.wrap ((b : Int) - a) = (b : Int) - a := by rw [IntKind.wrap_i64]; omega
        have hwa : IntKind.u8.wrap (a : Int) = a := by rw [IntKind.wrap_u8]; omega
        have hwa' : (a : Int) % 256 = a := by omega
        have hwb : IntKind.u8.wrap (b : Int) = b := by rw [IntKind.wrap_u8]; omega
        have hwb' : (b : Int) % 256 = b := by omega
        have z1 : ¬ 9223372036854775807 < (txt T).size + (txt (chr RC a)).size := by rw [txt_size, txt_size]; omega
        have z2 : ¬ 9223372036854775807 < (txt T).size + (txt (chr RC a)).size + 1 := by rw [txt_size, txt_size]; omega
        have z3 : ¬ 9223372036854775807 < (txt T).size + (txt (chr RC a)).size + 1 + (txt (chr RC b)).size := by rw [txt_size, txt_size, txt_size]; omega
        have z4 : ¬ 9223372036854775807 < (txt T).size + (txt (chr RC a)).size + (txt (chr RC b)).size := by rw [txt_size, txt_size, txt_size]; omega
        have c0 := HP0.out _ HROWk.out
        have c1 := HP1.out _ HROWk.out
        have hcase : (a < b ∧ a + 1 < b) ∨ (a < b ∧ ¬ a + 1 < b) ∨ ¬ a < b := by omega
        rcases hcase with ⟨hab, hab1⟩ | ⟨hab, hab1⟩ | hab
        · have hp1 : decide ((a : Int) < b) = true := decide_eq_true (by omega)
          have hp2 : decide (a < b) = true := decide_eq_true (by omega)
          have hp3 : decide ((1 : Int) < (b : Int) - a) = true := decide_eq_true (by omega)
          have HTX := hidden (show txt T ++ txt (chr RC a) ++ ⟨#[45]⟩ ++ txt (chr RC b) = txt (T ++ runTxt (a, b)) by
            rw [show (⟨#[45]⟩ : ByteArray) = txt [45] from rfl, txt_add, txt_add, txt_add]
            simp [runTxt, hab, hab1])
          clear hab hab1
          go_wp2_with fail
          refine (m1.out _).mono ?_
          rintro e w2 ⟨rfl, hb2⟩
          have HROW2 := hidden (HROWk.out.below hb2)
          have HB2 := hidden (below_after HB.out hb2)
          clear c0 c1 hb2
          have c0 := HP0.out _ HROW2.out
          have c1 := HP1.out _ HROW2.out
          go_wp2
          go_quiet (fail)
          go_wp2
          go_quiet (fail)
          go_wp2_with fail
          refine (m2.out _).mono ?_
          rintro e w3 ⟨rfl, hb3⟩
          have HB3 := hidden (below_after (below_drawn HB2.out _) hb3)
          clear c0 c1 hb3
          go_wp2
          go_roundw
          case rel => exact ⟨k + 1, by omega, by go_num, by rw [HMK.out, ← HTX.out], HB3.out⟩
          case measure => simp [RowKit.intOf]; omega
        · have hp1 : decide ((a : Int) < b) = true := decide_eq_true (by omega)
          have hp2 : decide (a < b) = true := decide_eq_true (by omega)
          have hp3 : decide ((1 : Int) < (b : Int) - a) = false := decide_eq_false (by omega)
          have HTX := hidden (show txt T ++ txt (chr RC a) ++ txt (chr RC b) = txt (T ++ runTxt (a, b)) by
            rw [txt_add, txt_add]
            simp [runTxt, hab, hab1])
          clear hab hab1
          go_wp2_with fail
          refine (m1.out _).mono ?_
          rintro e w2 ⟨rfl, hb2⟩
          have HROW2 := hidden (HROWk.out.below hb2)
          have HB2 := hidden (below_after HB.out hb2)
          clear c0 c1 hb2
          have c0 := HP0.out _ HROW2.out
          have c1 := HP1.out _ HROW2.out
          go_wp2
          go_quiet (fail)
          go_wp2
          go_quiet (fail)
          go_wp2_with fail
          refine (m2.out _).mono ?_
          rintro e w3 ⟨rfl, hb3⟩
          have HB3 := hidden (below_after (below_drawn HB2.out _) hb3)
          clear c0 c1 hb3
          go_wp2
          go_roundw
          case rel => exact ⟨k + 1, by omega, by go_num, by rw [HMK.out, ← HTX.out], HB3.out⟩
          case measure => simp [RowKit.intOf]; omega
        · have hp1 : decide ((a : Int) < b) = false := decide_eq_false (by omega)
          have hp2 : decide (a < b) = false := decide_eq_false (by omega)
          have hp3 : decide ((1 : Int) < (b : Int) - a) = false := decide_eq_false (by omega)
          have HTX := hidden (show txt T ++ txt (chr RC a) = txt (T ++ runTxt (a, b)) by
            rw [txt_add]
            simp [runTxt, show ¬ a + 1 < b by omega, hab])
          clear hab
          go_wp2_with fail
          refine (m1.out _).mono ?_
          rintro e w2 ⟨rfl, hb2⟩
          have HROW2 := hidden (HROWk.out.below hb2)
          have HB2 := hidden (below_after HB.out hb2)
          clear c0 c1 hb2
          have c0 := HP0.out _ HROW2.out
          have c1 := HP1.out _ HROW2.out
          go_wp2
          go_quiet (fail)
          go_wp2
          go_quiet (fail)
          go_wp2
          go_roundw
          case rel => exact ⟨k + 1, by omega, by go_num, by rw [HMK.out, ← HTX.out], below_drawn HB2.out _⟩
          case measure => simp [RowKit.intOf]; omega
      · obtain rfl : k = n := by omega
        have q0 : decide ((k : Int) < k) = false := decide_eq_false (by omega)
        go_wp2
        go_ret
        exact ⟨by rw [HALL.out]; rfl, below_after HB1.out HB.out⟩
set_option maxHeartbeats 4000000 in
set_option maxRecDepth 100000 in
theorem rshowSet_calls (f : Nat → Bool) (w : World) : Calls Tryd.prog 10 #[(.agg #[.int .u64 (word (f) 0), .int .u64 (word (f) 1), .int .u64 (word (f) 2), .int .u64 (word (f) 3)])] w fun e w' => e = .returned (.string (txt (shSet f))) ∧ Below w.heap.size w w' := by
  have hA0 := SetAt.new w f
  have HA := hidden hA0
  have HB := hidden ((Below.refl w.heap.size w).alloc (Nat.le_refl _) (.cells #[.int .u64 (word (f) 0), .int .u64 (word (f) 1), .int .u64 (word (f) 2), .int .u64 (word (f) 3)] 25))
  have HBy := hidden (rbytes_calls f (w.alloc (.cells #[.int .u64 (word (f) 0), .int .u64 (word (f) 1), .int .u64 (word (f) 2), .int .u64 (word (f) 3)] 25)))
  obtain ⟨T0, hT0⟩ : ∃ T, T = shSet f := ⟨_, rfl⟩
  rw [← hT0]
  by_cases h1 : (elems f).length = 1
  · obtain ⟨a, ha⟩ := List.length_eq_one_iff.1 h1
    have ha2 : a < 256 := by
      have : a ∈ elems f := by rw [ha]; simp
      unfold elems at this
      simpa using (List.mem_filter.1 this).1
    have HS := hidden (fun w => rchar_text a w ha2)
    have HR := hidden (hT0.trans (shSet_one ha))
    rw [ha] at HBy
    clear hA0 hT0 h1 ha
    go_enter Tryd.func10, Tryd.ntmps10
    go_wp2_with fail
    refine HBy.out.mono ?_
    rintro e w1 ⟨v, rfl, hown, hb1⟩
    have HB1 := hidden (below_after HB.out hb1)
    rcases hown.2 with ⟨rfl, hn⟩ | ⟨g, cap, cur, rfl, hg, hgg, hncap, hcapm, hcs, htake⟩
    · simp at hn
    · have c0 : w1.cell? ⟨g, 0, none⟩ = some (.int .u8 a) := by
        rw [cell_of_row w1 g 0 _ _ _ hgg]
        have := congrArg (fun l => l[0]?) htake
        simpa [List.getElem?_take, byteV] using this
      simp only [List.length_cons, List.length_nil, Nat.zero_add] at hncap ⊢
      clear hown hgg hg hcs htake hb1
      go_wp2_with fail
      refine (HS.out _).mono ?_
      rintro e w2 ⟨rfl, hb2⟩
      have HB2 := hidden (below_after HB1.out hb2)
      clear hb2
      go_wp2
      go_ret
      exact ⟨by rw [HR.out]; rfl, HB2.out⟩
  · have q1 : (((elems f).length : Int) == 1) = false := by simp; omega
    have hT1 : T0 = if sameSet f fDot = true then [46] else if others f = true then [91, 94] ++ (runsL (runs (fNot f)) ++ [93]) else [91] ++ (runsL (runs f) ++ [93]) := by
      rw [hT0]
      unfold shSet
      rw [if_neg h1]
    have hO : others f = ((elems f).length == 0 || (decide (128 < (elems f).length) && decide ((elems f).length < 256))) := rfl
    have hel := elems_le f
    generalize (elems f).length = n at *
    have hq := fun w => eq_sets w f fDot
    have HD1 : Hid (∀ w, Calls Tryd.prog 27 #[.int .u8 10] w fun e w' => e = .returned (.agg #[.int .u64 (word (fOne 10) 0), .int .u64 (word (fOne 10) 1), .int .u64 (word (fOne 10) 2), .int .u64 (word (fOne 10) 3)]) ∧ Below w.heap.size w w') := hidden (fun w => rone_calls 10 w (by omega))
    have HD2 : Hid (∀ w, Calls Tryd.prog 26 #[(.agg #[.int .u64 (word (fOne 10) 0), .int .u64 (word (fOne 10) 1), .int .u64 (word (fOne 10) 2), .int .u64 (word (fOne 10) 3)])] w fun e w' => e = .returned (.agg #[.int .u64 (word (fDot) 0), .int .u64 (word (fDot) 1), .int .u64 (word (fDot) 2), .int .u64 (word (fDot) 3)]) ∧ Below w.heap.size w w') := hidden (fun w => rnot_calls (fOne 10) w)
    have HN := hidden (fun w => rnot_calls f w)
    have HU1 := hidden (fun w => rshowRuns_calls (fNot f) w)
    have HU2 := hidden (fun w => rshowRuns_calls f w)
    have zl : (txt (runsL (runs (fNot f)))).size ≤ 1200 := runs_size (fNot f)
    have z1 : ¬ 9223372036854775807 < 2 + (txt (runsL (runs (fNot f)))).size := by omega
    have z2 : ¬ 9223372036854775807 < 2 + (txt (runsL (runs (fNot f)))).size + 1 := by omega
    have zl' : (txt (runsL (runs f))).size ≤ 1200 := runs_size f
    have z3 : ¬ 9223372036854775807 < 1 + (txt (runsL (runs f))).size := by omega
    have z4 : ¬ 9223372036854775807 < 1 + (txt (runsL (runs f))).size + 1 := by omega
    go_enter Tryd.func10, Tryd.ntmps10
    go_wp2_with fail
    refine HBy.out.mono ?_
    rintro e w1 ⟨v, rfl, hown, hb1⟩
    have hv : ∃ ad cap, v = .slice ad n cap := by
      rcases hown.2 with ⟨rfl, hn⟩ | ⟨g, cap, cur, rfl, _⟩
      · exact ⟨_, _, by rw [hn]⟩
      · exact ⟨_, _, rfl⟩
    obtain ⟨ad, cap, rfl⟩ := hv
    have HB1 := hidden (below_after HB.out hb1)
    have hA1 := HA.out.below hb1
    have HA1 := hidden hA1
    obtain ⟨d0, d1, d2, d3, g0, g1, g2, g3⟩ := hA1.facts
    have k0 := fun p : Later w1 => Later.cell d0 hA1.lt p
    have k1 := fun p : Later w1 => Later.cell d1 hA1.lt p
    have k2 := fun p : Later w1 => Later.cell d2 hA1.lt p
    have k3 := fun p : Later w1 => Later.cell d3 hA1.lt p
    clear hb1 hA1 hown hA0 hT0 h1
    by_cases hs : sameSet f fDot = true
    · rw [hs] at hq
      rw [if_pos hs] at hT1
      have HR := hidden hT1
      clear hs hT1 hO
      go_wp2
      refine wp_region_later (by kernel_rfl) (by kernel_rfl) ?_
      repeat (go_big_quiet_step (first | exact Later.calls (HD1.out _) | exact Later.calls (HD2.out _)))
      refine wpQuiet_nil ?_
      rintro _ ⟨⟨w2, hb2⟩, rfl⟩
      go_wp2
      go_ret
      exact ⟨by rw [HR.out]; rfl, below_after HB1.out hb2⟩
    · have hs' : sameSet f fDot = false := by simpa using hs
      rw [hs'] at hq
      rw [if_neg hs] at hT1
      have hcase : (n = 0 ∧ others f = true) ∨ (n ≠ 0 ∧ 128 < n ∧ n < 256 ∧ others f = true) ∨ (n ≠ 0 ∧ 128 < n ∧ ¬ n < 256 ∧ others f = false) ∨ (n ≠ 0 ∧ ¬ 128 < n ∧ others f = false) := by
        by_cases h0 : n = 0
        · exact .inl ⟨h0, by rw [hO]; simp [h0]⟩
        · by_cases h2 : 128 < n
          · by_cases h3 : n < 256
            · exact .inr (.inl ⟨h0, h2, h3, by rw [hO]; simp [h2, h3]⟩)
            · exact .inr (.inr (.inl ⟨h0, h2, h3, by rw [hO]; simp [h0, h3]⟩))
          · exact .inr (.inr (.inr ⟨h0, h2, by rw [hO]; simp [h0, h2]⟩))
      clear hO hs hs'
      rcases hcase with ⟨h0, ho⟩ | ⟨h0, h2, h3, ho⟩ | ⟨h0, h2, h3, ho⟩ | ⟨h0, h2, ho⟩
      · have p0 : ((n : Int) == 0) = true := by simp; omega
        rw [if_pos ho] at hT1
        have HR := hidden hT1
        clear hT1 ho
        go_wp2
        refine wp_region_later (by kernel_rfl) (by kernel_rfl) ?_
        repeat (go_big_quiet_step (first | exact Later.calls (HD1.out _) | exact Later.calls (HD2.out _)))
        refine wpQuiet_nil ?_
        rintro _ ⟨⟨w2, hb2⟩, rfl⟩
        have HB2 := hidden (below_after HB1.out hb2)
        have hA2 := HA1.out.below hb2
        clear d0 d1 d2 d3 g0 g1 g2 g3 k0 k1 k2 k3 hb2
        obtain ⟨d0, d1, d2, d3, g0, g1, g2, g3⟩ := hA2.facts
        clear hA2
        go_wp2_with fail
        refine (HN.out _).mono ?_
        rintro e w4 ⟨rfl, hb4⟩
        have HB4 := hidden (below_after HB2.out hb4)
        clear d0 d1 d2 d3 g0 g1 g2 g3 hb4
        go_wp2_with fail
        refine (HU1.out _).mono ?_
        rintro e w5 ⟨rfl, hb5⟩
        have HB5 := hidden (below_after HB4.out hb5)
        clear hb5
        go_wp2
        go_ret
        exact ⟨by rw [HR.out, ← txt_wrap]; rfl, HB5.out⟩
      · have p0 : ((n : Int) == 0) = false := by simp; omega
        have p1 : decide ((128 : Int) < n) = true := decide_eq_true (by omega)
        have p2 : decide ((n : Int) < 256) = true := decide_eq_true (by omega)
        rw [if_pos ho] at hT1
        have HR := hidden hT1
        clear hT1 ho
        go_wp2
        refine wp_region_later (by kernel_rfl) (by kernel_rfl) ?_
        repeat (go_big_quiet_step (first | exact Later.calls (HD1.out _) | exact Later.calls (HD2.out _)))
        refine wpQuiet_nil ?_
        rintro _ ⟨⟨w2, hb2⟩, rfl⟩
        have HB2 := hidden (below_after HB1.out hb2)
        have hA2 := HA1.out.below hb2
        clear d0 d1 d2 d3 g0 g1 g2 g3 k0 k1 k2 k3 hb2
        obtain ⟨d0, d1, d2, d3, g0, g1, g2, g3⟩ := hA2.facts
        clear hA2
        go_wp2_with fail
        refine (HN.out _).mono ?_
        rintro e w4 ⟨rfl, hb4⟩
        have HB4 := hidden (below_after HB2.out hb4)
        clear d0 d1 d2 d3 g0 g1 g2 g3 hb4
        go_wp2_with fail
        refine (HU1.out _).mono ?_
        rintro e w5 ⟨rfl, hb5⟩
        have HB5 := hidden (below_after HB4.out hb5)
        clear hb5
        go_wp2
        go_ret
        exact ⟨by rw [HR.out, ← txt_wrap]; rfl, HB5.out⟩
      · have p0 : ((n : Int) == 0) = false := by simp; omega
        have p1 : decide ((128 : Int) < n) = true := decide_eq_true (by omega)
        have p2 : decide ((n : Int) < 256) = false := decide_eq_false (by omega)
        rw [if_neg (by rw [ho]; simp)] at hT1
        have HR := hidden hT1
        clear hT1 ho
        go_wp2
        refine wp_region_later (by kernel_rfl) (by kernel_rfl) ?_
        repeat (go_big_quiet_step (first | exact Later.calls (HD1.out _) | exact Later.calls (HD2.out _)))
        refine wpQuiet_nil ?_
        rintro _ ⟨⟨w2, hb2⟩, rfl⟩
        have HB2 := hidden (below_after HB1.out hb2)
        have hA2 := HA1.out.below hb2
        clear d0 d1 d2 d3 g0 g1 g2 g3 k0 k1 k2 k3 hb2
        obtain ⟨d0, d1, d2, d3, g0, g1, g2, g3⟩ := hA2.facts
        clear hA2
        go_wp2_with fail
        refine (HU2.out _).mono ?_
        rintro e w5 ⟨rfl, hb5⟩
        have HB5 := hidden (below_after HB2.out hb5)
        clear hb5
        go_wp2
        go_ret
        exact ⟨by rw [HR.out, ← txt_wrap]; rfl, HB5.out⟩
      · have p0 : ((n : Int) == 0) = false := by simp; omega
        have p1 : decide ((128 : Int) < n) = false := decide_eq_false (by omega)
        rw [if_neg (by rw [ho]; simp)] at hT1
        have HR := hidden hT1
        clear hT1 ho
        go_wp2
        refine wp_region_later (by kernel_rfl) (by kernel_rfl) ?_
        repeat (go_big_quiet_step (first | exact Later.calls (HD1.out _) | exact Later.calls (HD2.out _)))
        refine wpQuiet_nil ?_
        rintro _ ⟨⟨w2, hb2⟩, rfl⟩
        have HB2 := hidden (below_after HB1.out hb2)
        have hA2 := HA1.out.below hb2
        clear d0 d1 d2 d3 g0 g1 g2 g3 k0 k1 k2 k3 hb2
        obtain ⟨d0, d1, d2, d3, g0, g1, g2, g3⟩ := hA2.facts
        clear hA2
        go_wp2_with fail
        refine (HU2.out _).mono ?_
        rintro e w5 ⟨rfl, hb5⟩
        have HB5 := hidden (below_after HB2.out hb5)
        clear hb5
        go_wp2
        go_ret
        exact ⟨by rw [HR.out, ← txt_wrap]; rfl, HB5.out⟩
end Go.Proofs.YthiiinbkkjacbaaDoor

/- The reference's Show, at the steps of a tree. -/
namespace Go.Proofs.YthiiinbkkjacbaaDoor
open Go.RowKit Go.Lib Go.Joins

/-- a text in parentheses or not -/
def wr (c : Bool) (s : ByteArray) : ByteArray := match c with
  | true => ⟨#[40]⟩ ++ s ++ ⟨#[41]⟩
  | false => s
theorem wr_par (c : Bool) (t : List UInt8) : wr c (txt t) = txt (par c t) := by
  cases c
  · rfl
  · exact txt_par t
/-- the program's show at a place tells this text -/
def Shows (b off cap : Nat) (L : List Stp) (i : Nat) (t : List UInt8) : Prop := ∀ w, Lay b off L w → Calls Tryd.prog 16 #[.slice (some ⟨b, off, none⟩) L.length cap, .int .i64 i] w fun e w' => e = .returned (.string (txt t)) ∧ Below w.heap.size w w'
section
variable {b off cap : Nat} {L : List Stp}
set_option maxRecDepth 100000 in
theorem rshowSet {i : Nat} {f : Nat → Bool} (hi : i < L.length) (hk : L.getD i default = sStp f) : Shows b off cap L i (shSet f) := by
  intro w h
  obtain ⟨c0, c1, c2, c3, c4⟩ := h.2 i hi
  rw [hk] at c0 c1 c2 c3 c4
  unfold sStp at c0 c1 c2 c3 c4
  simp only at c0 c1 c2 c3 c4
  have HS := hidden (rshowSet_calls f w)
  generalize L.length = n at *
  clear h hk
  go_enter Tryd.func16, Tryd.ntmps16
  go_wp2_with fail
  refine HS.out.mono ?_
  rintro e w1 ⟨rfl, hb⟩
  go_wp2
  go_ret
  exact ⟨rfl, hb⟩
set_option maxRecDepth 100000 in
theorem rshowEmp {i : Nat} (hi : i < L.length) (hk : (L.getD i default).k = 2) : Shows b off cap L i [40, 41] := by
  intro w h
  have c0 := h.kind hi hk
  generalize L.length = n at *
  clear h hk
  go_enter Tryd.func16, Tryd.ntmps16
  go_wp2
  go_ret
  exact ⟨rfl, Below.refl _ _⟩
set_option maxHeartbeats 2000000 in
set_option maxRecDepth 100000 in
theorem rshowUn5 {i j : Nat} {ka : Int} {ta : List UInt8} (hi : i < L.length) (hk : (L.getD i default).k = 5) (hj : j + 1 = i) (hka : (L.getD j default).k = ka) (hla : ta.length ≤ 1000000) (hl : L.length ≤ 1000) (HA : Shows b off cap L j ta) : Shows b off cap L i (par (isTwo ka) ta ++ [42]) := by
  intro w h
  have c0 := h.kind hi hk
  have hA := HA w h
  have hsub : IntKind.i64.wrap ((i : Int) - 1) = j := by rw [IntKind.wrap_i64]; omega
  have HC := hidden (fun W (hW : Lay b off L W) => hW.kind (show j < L.length by omega) hka)
  have HH := hidden h
  have HAA := hidden hA
  have hjn : j < L.length := by omega
  obtain ⟨n, hn⟩ : ∃ n, n = L.length := ⟨_, rfl⟩
  rw [← hn] at hi HAA hl hjn ⊢
  have z0 : (txt ta).size ≤ 1000000 := hla
  have z1 : ¬ 9223372036854775807 < 1 + (txt ta).size := by omega
  have z2 : ¬ 9223372036854775807 < 1 + (txt ta).size + 1 := by omega
  have z3 : ¬ 9223372036854775807 < 1 + (txt ta).size + 1 + 1 := by omega
  have z4 : ¬ 9223372036854775807 < (txt ta).size + 1 := by omega
  obtain ⟨d4, hd4⟩ : ∃ d, d = (ka == 4) := ⟨_, rfl⟩
  obtain ⟨d3, hd3⟩ : ∃ d, d = (ka == 3) := ⟨_, rfl⟩
  have q4 := hd4.symm
  have q3 := hd3.symm
  have HR := hidden (show txt (par (isTwo ka) ta ++ [42]) = wr (d4 || d3) (txt ta) ++ ⟨#[42]⟩ by
    unfold isTwo
    rw [← hd4, ← hd3, wr_par, show (⟨#[42]⟩ : ByteArray) = txt [42] from rfl, txt_add])
  rw [HR.out]
  generalize txt ta = sa at *
  clear h hA hk hj hka hla hn hd4 hd3 HA HR
  cases d4 <;> cases d3
  all_goals
    go_enter Tryd.func16, Tryd.ntmps16
    go_wp2_with fail
    refine HAA.out.mono ?_
    rintro e w1 ⟨rfl, hb⟩
    have HB := hidden hb
    have c1 := HC.out _ (HH.out.below hb)
    clear hb
    go_wp2
    go_ret
    exact ⟨rfl, HB.out⟩
set_option maxHeartbeats 2000000 in
set_option maxRecDepth 100000 in
theorem rshowUn6 {i j : Nat} {ka : Int} {ta : List UInt8} (hi : i < L.length) (hk : (L.getD i default).k = 6) (hj : j + 1 = i) (hka : (L.getD j default).k = ka) (hla : ta.length ≤ 1000000) (hl : L.length ≤ 1000) (HA : Shows b off cap L j ta) : Shows b off cap L i (par (isTwo ka) ta ++ [43]) := by
  intro w h
  have c0 := h.kind hi hk
  have hA := HA w h
  have hsub : IntKind.i64.wrap ((i : Int) - 1) = j := by rw [IntKind.wrap_i64]; omega
  have HC := hidden (fun W (hW : Lay b off L W) => hW.kind (show j < L.length by omega) hka)
  have HH := hidden h
  have HAA := hidden hA
  have hjn : j < L.length := by omega
  obtain ⟨n, hn⟩ : ∃ n, n = L.length := ⟨_, rfl⟩
  rw [← hn] at hi HAA hl hjn ⊢
  have z0 : (txt ta).size ≤ 1000000 := hla
  have z1 : ¬ 9223372036854775807 < 1 + (txt ta).size := by omega
  have z2 : ¬ 9223372036854775807 < 1 + (txt ta).size + 1 := by omega
  have z3 : ¬ 9223372036854775807 < 1 + (txt ta).size + 1 + 1 := by omega
  have z4 : ¬ 9223372036854775807 < (txt ta).size + 1 := by omega
  obtain ⟨d4, hd4⟩ : ∃ d, d = (ka == 4) := ⟨_, rfl⟩
  obtain ⟨d3, hd3⟩ : ∃ d, d = (ka == 3) := ⟨_, rfl⟩
  have q4 := hd4.symm
  have q3 := hd3.symm
  have HR := hidden (show txt (par (isTwo ka) ta ++ [43]) = wr (d4 || d3) (txt ta) ++ ⟨#[43]⟩ by
    unfold isTwo
    rw [← hd4, ← hd3, wr_par, show (⟨#[43]⟩ : ByteArray) = txt [43] from rfl, txt_add])
  rw [HR.out]
  generalize txt ta = sa at *
  clear h hA hk hj hka hla hn hd4 hd3 HA HR
  cases d4 <;> cases d3
  all_goals
    go_enter Tryd.func16, Tryd.ntmps16
    go_wp2_with fail
    refine HAA.out.mono ?_
    rintro e w1 ⟨rfl, hb⟩
    have HB := hidden hb
    have c1 := HC.out _ (HH.out.below hb)
    clear hb
    go_wp2
    go_ret
    exact ⟨rfl, HB.out⟩
set_option maxHeartbeats 2000000 in
set_option maxRecDepth 100000 in
theorem rshowUn7 {i j : Nat} {ka : Int} {ta : List UInt8} (hi : i < L.length) (hk : (L.getD i default).k = 7) (hj : j + 1 = i) (hka : (L.getD j default).k = ka) (hla : ta.length ≤ 1000000) (hl : L.length ≤ 1000) (HA : Shows b off cap L j ta) : Shows b off cap L i (par (isTwo ka) ta ++ [63]) := by
  intro w h
  have c0 := h.kind hi hk
  have hA := HA w h
  have hsub : IntKind.i64.wrap ((i : Int) - 1) = j := by rw [IntKind.wrap_i64]; omega
  have HC := hidden (fun W (hW : Lay b off L W) => hW.kind (show j < L.length by omega) hka)
  have HH := hidden h
  have HAA := hidden hA
  have hjn : j < L.length := by omega
  obtain ⟨n, hn⟩ : ∃ n, n = L.length := ⟨_, rfl⟩
  rw [← hn] at hi HAA hl hjn ⊢
  have z0 : (txt ta).size ≤ 1000000 := hla
  have z1 : ¬ 9223372036854775807 < 1 + (txt ta).size := by omega
  have z2 : ¬ 9223372036854775807 < 1 + (txt ta).size + 1 := by omega
  have z3 : ¬ 9223372036854775807 < 1 + (txt ta).size + 1 + 1 := by omega
  have z4 : ¬ 9223372036854775807 < (txt ta).size + 1 := by omega
  obtain ⟨d4, hd4⟩ : ∃ d, d = (ka == 4) := ⟨_, rfl⟩
  obtain ⟨d3, hd3⟩ : ∃ d, d = (ka == 3) := ⟨_, rfl⟩
  have q4 := hd4.symm
  have q3 := hd3.symm
  have HR := hidden (show txt (par (isTwo ka) ta ++ [63]) = wr (d4 || d3) (txt ta) ++ ⟨#[63]⟩ by
    unfold isTwo
    rw [← hd4, ← hd3, wr_par, show (⟨#[63]⟩ : ByteArray) = txt [63] from rfl, txt_add])
  rw [HR.out]
  generalize txt ta = sa at *
  clear h hA hk hj hka hla hn hd4 hd3 HA HR
  cases d4 <;> cases d3
  all_goals
    go_enter Tryd.func16, Tryd.ntmps16
    go_wp2_with fail
    refine HAA.out.mono ?_
    rintro e w1 ⟨rfl, hb⟩
    have HB := hidden hb
    have c1 := HC.out _ (HH.out.below hb)
    clear hb
    go_wp2
    go_ret
    exact ⟨rfl, HB.out⟩
set_option maxHeartbeats 4000000 in
set_option maxRecDepth 100000 in
theorem rshowAlt {i j y l : Nat} {ka kc : Int} {ta tc : List UInt8} (hi : i < L.length) (hk : (L.getD i default).k = 4) (hj : j + 1 = i) (hkc : (L.getD j default).k = kc) (hy : l + 1 = y) (hyj : y ≤ j) (hka : (L.getD l default).k = ka)
    (hla : ta.length ≤ 1000000) (hlc : tc.length ≤ 1000000) (hl : L.length ≤ 1000) (HA : Shows b off cap L l ta) (HC : Shows b off cap L j tc)
    (HBeg : ∀ w, Lay b off L w → Calls Tryd.prog 34 #[.slice (some ⟨b, off, none⟩) L.length cap, .int .i64 j] w fun e w' => e = .returned (.int .i64 y) ∧ w = w') : Shows b off cap L i (ta ++ [124] ++ par (isAlt kc) tc) := by
  intro w h
  have c0 := h.kind hi hk
  have HCC := hidden (HC w h)
  have hsub : IntKind.i64.wrap ((i : Int) - 1) = j := by rw [IntKind.wrap_i64]; omega
  have hsub2 : IntKind.i64.wrap ((y : Int) - 1) = l := by rw [IntKind.wrap_i64]; omega
  have HKC := hidden (fun W (hW : Lay b off L W) => hW.kind (show j < L.length by omega) hkc)
  have HKA := hidden (fun W (hW : Lay b off L W) => hW.kind (show l < L.length by omega) hka)
  have HH := hidden h
  have HAA := hidden HA
  have HBB := hidden HBeg
  have hjn : j < L.length := by omega
  have hln : l < L.length := by omega
  unfold Shows at HAA
  obtain ⟨n, hn⟩ : ∃ n, n = L.length := ⟨_, rfl⟩
  rw [← hn] at hi hl hjn hln HCC HAA HBB ⊢
  have z0 : (txt ta).size ≤ 1000000 := hla
  have z0' : (txt tc).size ≤ 1000000 := hlc
  have z1 : ¬ 9223372036854775807 < 1 + (txt ta).size := by omega
  have z2 : ¬ 9223372036854775807 < 1 + (txt ta).size + 1 := by omega
  have z3 : ¬ 9223372036854775807 < 1 + (txt tc).size := by omega
  have z4 : ¬ 9223372036854775807 < 1 + (txt tc).size + 1 := by omega
  have z5 : ¬ 9223372036854775807 < (txt ta).size + 1 := by omega
  have z6 : ¬ 9223372036854775807 < (txt ta).size + 1 + (txt tc).size := by omega
  have z7 : ¬ 9223372036854775807 < (txt ta).size + 1 + (1 + (txt tc).size + 1) := by omega
  have z8 : ¬ 9223372036854775807 < (txt ta).size + (txt tc).size := by omega
  have z9 : ¬ 9223372036854775807 < (txt ta).size + (1 + (txt tc).size + 1) := by omega
  have z10 : ¬ 9223372036854775807 < 1 + (txt ta).size + 1 + (txt tc).size := by omega
  have z11 : ¬ 9223372036854775807 < 1 + (txt ta).size + 1 + (1 + (txt tc).size + 1) := by omega
  obtain ⟨d4, hd4⟩ : ∃ d, d = (ka == 4) := ⟨_, rfl⟩
  obtain ⟨c4, hc4⟩ : ∃ d, d = (kc == 4) := ⟨_, rfl⟩
  obtain ⟨c3, hc3⟩ : ∃ d, d = (kc == 3) := ⟨_, rfl⟩
  have q4 := hd4.symm
  have p4 := hc4.symm
  have p3 := hc3.symm
  have HR := hidden (show txt (ta ++ [124] ++ par (isAlt kc) tc) = txt ta ++ ⟨#[124]⟩ ++ wr c4 (txt tc) by
    unfold isAlt
    rw [← hc4, wr_par, show (⟨#[124]⟩ : ByteArray) = txt [124] from rfl, txt_add, txt_add])
  rw [HR.out]
  generalize txt ta = sa at *
  generalize txt tc = sc at *
  clear h hk hj hka hkc hla hlc hn hd4 hc4 hc3 HA HC HR HBeg hy
  cases c4
  all_goals
    go_enter Tryd.func16, Tryd.ntmps16
    go_wp2_with fail
    refine HCC.out.mono ?_
    rintro e w1 ⟨rfl, hb⟩
    have HB := hidden hb
    have H1 := hidden (HH.out.below hb)
    have c1 := HKC.out _ H1.out
    clear hb
    go_wp2_with fail
    refine (HBB.out _ H1.out).mono ?_
    rintro e w2 ⟨rfl, rfl⟩
    go_wp2_with fail
    refine (HAA.out _ H1.out).mono ?_
    rintro e w2 ⟨rfl, hb⟩
    have HB2 := hidden (below_after HB.out hb)
    have c2 := HKA.out _ (H1.out.below hb)
    clear hb
    go_wp2
    go_ret
    exact ⟨rfl, HB2.out⟩
set_option maxHeartbeats 4000000 in
set_option maxRecDepth 100000 in
theorem rshowCat {i j y l : Nat} {ka kc : Int} {ta tc : List UInt8} (hi : i < L.length) (hk : (L.getD i default).k = 3) (hj : j + 1 = i) (hkc : (L.getD j default).k = kc) (hy : l + 1 = y) (hyj : y ≤ j) (hka : (L.getD l default).k = ka)
    (hla : ta.length ≤ 1000000) (hlc : tc.length ≤ 1000000) (hl : L.length ≤ 1000) (HA : Shows b off cap L l ta) (HC : Shows b off cap L j tc)
    (HBeg : ∀ w, Lay b off L w → Calls Tryd.prog 34 #[.slice (some ⟨b, off, none⟩) L.length cap, .int .i64 j] w fun e w' => e = .returned (.int .i64 y) ∧ w = w') : Shows b off cap L i (par (isAlt ka) ta ++ par (isTwo kc) tc) := by
  intro w h
  have c0 := h.kind hi hk
  have HCC := hidden (HC w h)
  have hsub : IntKind.i64.wrap ((i : Int) - 1) = j := by rw [IntKind.wrap_i64]; omega
  have hsub2 : IntKind.i64.wrap ((y : Int) - 1) = l := by rw [IntKind.wrap_i64]; omega
  have HKC := hidden (fun W (hW : Lay b off L W) => hW.kind (show j < L.length by omega) hkc)
  have HKA := hidden (fun W (hW : Lay b off L W) => hW.kind (show l < L.length by omega) hka)
  have HH := hidden h
  have HAA := hidden HA
  have HBB := hidden HBeg
  have hjn : j < L.length := by omega
  have hln : l < L.length := by omega
  unfold Shows at HAA
  obtain ⟨n, hn⟩ : ∃ n, n = L.length := ⟨_, rfl⟩
  rw [← hn] at hi hl hjn hln HCC HAA HBB ⊢
  have z0 : (txt ta).size ≤ 1000000 := hla
  have z0' : (txt tc).size ≤ 1000000 := hlc
  have z1 : ¬ 9223372036854775807 < 1 + (txt ta).size := by omega
  have z2 : ¬ 9223372036854775807 < 1 + (txt ta).size + 1 := by omega
  have z3 : ¬ 9223372036854775807 < 1 + (txt tc).size := by omega
  have z4 : ¬ 9223372036854775807 < 1 + (txt tc).size + 1 := by omega
  have z5 : ¬ 9223372036854775807 < (txt ta).size + 1 := by omega
  have z6 : ¬ 9223372036854775807 < (txt ta).size + 1 + (txt tc).size := by omega
  have z7 : ¬ 9223372036854775807 < (txt ta).size + 1 + (1 + (txt tc).size + 1) := by omega
  have z8 : ¬ 9223372036854775807 < (txt ta).size + (txt tc).size := by omega
  have z9 : ¬ 9223372036854775807 < (txt ta).size + (1 + (txt tc).size + 1) := by omega
  have z10 : ¬ 9223372036854775807 < 1 + (txt ta).size + 1 + (txt tc).size := by omega
  have z11 : ¬ 9223372036854775807 < 1 + (txt ta).size + 1 + (1 + (txt tc).size + 1) := by omega
  obtain ⟨d4, hd4⟩ : ∃ d, d = (ka == 4) := ⟨_, rfl⟩
  obtain ⟨c4, hc4⟩ : ∃ d, d = (kc == 4) := ⟨_, rfl⟩
  obtain ⟨c3, hc3⟩ : ∃ d, d = (kc == 3) := ⟨_, rfl⟩
  have q4 := hd4.symm
  have p4 := hc4.symm
  have p3 := hc3.symm
  have HR := hidden (show txt (par (isAlt ka) ta ++ par (isTwo kc) tc) = wr d4 (txt ta) ++ wr (c4 || c3) (txt tc) by
    unfold isAlt isTwo
    rw [← hd4, ← hc4, ← hc3, wr_par, wr_par, txt_add])
  rw [HR.out]
  generalize txt ta = sa at *
  generalize txt tc = sc at *
  clear h hk hj hka hkc hla hlc hn hd4 hc4 hc3 HA HC HR HBeg hy
  cases c4 <;> cases c3 <;> cases d4
  all_goals
    go_enter Tryd.func16, Tryd.ntmps16
    go_wp2_with fail
    refine HCC.out.mono ?_
    rintro e w1 ⟨rfl, hb⟩
    have HB := hidden hb
    have H1 := hidden (HH.out.below hb)
    have c1 := HKC.out _ H1.out
    clear hb
    go_wp2_with fail
    refine (HBB.out _ H1.out).mono ?_
    rintro e w2 ⟨rfl, rfl⟩
    go_wp2_with fail
    refine (HAA.out _ H1.out).mono ?_
    rintro e w2 ⟨rfl, hb⟩
    have HB2 := hidden (below_after HB.out hb)
    have c2 := HKA.out _ (H1.out.below hb)
    clear hb
    go_wp2
    go_ret
    exact ⟨rfl, HB2.out⟩
end
end Go.Proofs.YthiiinbkkjacbaaDoor

/- The reference's Show. -/
namespace Go.Proofs.YthiiinbkkjacbaaDoor
open Go.RowKit Go.Lib Go.Joins

theorem show_short {L x z : List Stp} {e : Ex} (hL : L = x ++ ops e ++ z) (hl : L.length ≤ 512) : (showE e).length ≤ 1000000 := by
  have h1 := showE_len e
  have h2 : (ops e).length ≤ 512 := by
    rw [hL] at hl
    simp only [List.length_append] at hl
    omega
  omega
section
variable {b off cap : Nat} {L : List Stp}
theorem rshow_calls (hl : L.length ≤ 512) : ∀ (e : Ex), e.ok → ∀ (x z : List Stp) (i : Nat), L = x ++ ops e ++ z → i + 1 = x.length + (ops e).length → Shows b off cap L i (showE e)
  | .set f, _, x, z, i, hL, hi => by
    obtain ⟨h1, h2⟩ := at_end hL hi
    refine rshowSet h1 ?_
    have hx : i = x.length := by simp [ops] at hi; omega
    have hg := getD_end x [] z (sStp f)
    simp only [List.length_nil, Nat.add_zero, List.nil_append] at hg
    rw [hL, hx]
    exact hg
  | .emp, _, x, z, i, hL, hi => by
    obtain ⟨h1, h2⟩ := at_end hL hi
    exact rshowEmp h1 h2
  | .un k a, ⟨hk, ha⟩, x, z, i, hL, hi => by
    obtain ⟨h1, h2⟩ := at_end hL hi
    have hp := ops_pos a
    have hlen : (ops (.un k a)).length = (ops a).length + 1 := by simp [ops]
    rw [hlen] at hi
    have hL2 : L = x ++ ops a ++ ([kStp k] ++ z) := by rw [hL]; simp [ops]
    have IH := rshow_calls hl a ha x _ (i - 1) hL2 (by omega)
    obtain ⟨_, h3⟩ := at_end (i := i - 1) hL2 (by omega)
    have hs := show_short hL2 hl
    rcases hk with rfl | rfl | rfl
    · exact rshowUn5 h1 h2 (by omega) h3 hs (by omega) IH
    · exact rshowUn6 h1 h2 (by omega) h3 hs (by omega) IH
    · exact rshowUn7 h1 h2 (by omega) h3 hs (by omega) IH
  | .cat a c, ⟨ha, hc⟩, x, z, i, hL, hi => by
    obtain ⟨h1, h2⟩ := at_end hL hi
    have hp := ops_pos a
    have hp2 := ops_pos c
    have hlen : (ops (.cat a c)).length = (ops a).length + (ops c).length + 1 := by simp [ops]; omega
    rw [hlen] at hi
    have hL2 : L = (x ++ ops a) ++ ops c ++ ([kStp 3] ++ z) := by rw [hL]; simp [ops]
    have hL3 : L = x ++ ops a ++ (ops c ++ [kStp 3] ++ z) := by rw [hL]; simp [ops]
    have e2 : i - 1 + 1 = (x ++ ops a).length + (ops c).length := by rw [List.length_append]; omega
    have e3 : x.length + (ops a).length - 1 + 1 = x.length + (ops a).length := by omega
    exact rshowCat h1 h2 (by omega) (at_end hL2 e2).2 (by rw [List.length_append]; omega) (by rw [List.length_append]; omega) (at_end hL3 e3).2 (show_short hL3 hl) (show_short hL2 hl) (by omega)
      (rshow_calls hl a ha x _ _ hL3 e3) (rshow_calls hl c hc _ _ _ hL2 e2) (fun w hw => rbegin_calls hw (by omega) c hc _ _ _ hL2 e2)
  | .alt a c, ⟨ha, hc⟩, x, z, i, hL, hi => by
    obtain ⟨h1, h2⟩ := at_end hL hi
    have hp := ops_pos a
    have hp2 := ops_pos c
    have hlen : (ops (.alt a c)).length = (ops a).length + (ops c).length + 1 := by simp [ops]; omega
    rw [hlen] at hi
    have hL2 : L = (x ++ ops a) ++ ops c ++ ([kStp 4] ++ z) := by rw [hL]; simp [ops]
    have hL3 : L = x ++ ops a ++ (ops c ++ [kStp 4] ++ z) := by rw [hL]; simp [ops]
    have e2 : i - 1 + 1 = (x ++ ops a).length + (ops c).length := by rw [List.length_append]; omega
    have e3 : x.length + (ops a).length - 1 + 1 = x.length + (ops a).length := by omega
    exact rshowAlt h1 h2 (by omega) (at_end hL2 e2).2 (by rw [List.length_append]; omega) (by rw [List.length_append]; omega) (at_end hL3 e3).2 (show_short hL3 hl) (show_short hL2 hl) (by omega)
      (rshow_calls hl a ha x _ _ hL3 e3) (rshow_calls hl c hc _ _ _ hL2 e2) (fun w hw => rbegin_calls hw (by omega) c hc _ _ _ hL2 e2)
end
set_option maxRecDepth 100000 in
theorem rshow_none {C : Nat → Prop} {v : Value} {L : List Stp} {w : World} (h : SlX C w v L) (hv : (measV L).2 ≠ 0) :
    Calls Tryd.prog 8 #[v] w fun e w' => e = .returned (.string ⟨#[]⟩) ∧ Below w.heap.size w w' := by
  have HC := hidden (rcheck_slX h)
  have q0 : ((measV L).2 == 0) = false := by simpa using hv
  generalize (measV L).2 = z at *
  clear h hv
  go_enter Tryd.func8, Tryd.ntmps8
  go_wp2_with fail
  refine HC.out.mono ?_
  rintro e w1 ⟨rfl, rfl⟩
  go_wp2
  go_ret
  exact ⟨rfl, Below.refl _ _⟩
set_option maxRecDepth 100000 in
theorem rshow_slX {C : Nat → Prop} {v : Value} {L : List Stp} {w : World} (h : SlX C w v L) (hC : ∀ b, C b → b < w.heap.size) (hv : (measV L).2 = 0) {e : Ex} (he : e.ok) (hL : ops e = L) :
    Calls Tryd.prog 8 #[v] w fun e' w' => e' = .returned (.string (txt (showE e))) ∧ Below w.heap.size w w' := by
  have HCK := rcheck_slX h
  rw [hv] at HCK
  have HC := hidden HCK
  obtain ⟨h512, hE⟩ := meas_expr hv
  have hpos := expr_ne hE
  obtain ⟨a, cap, rfl, hl, hcap, _, hS⟩ := h
  obtain ⟨b, off, rfl, hCb, hc⟩ := hS.2 hpos
  have hlay : Lay b off L w := ⟨hC b hCb, hc⟩
  have hsh := rshow_calls (b := b) (off := off) (cap := cap) h512 e he [] [] (L.length - 1) (by rw [hL]; simp) (by rw [hL]; simp; omega) w hlay
  have HS := hidden hsh
  obtain ⟨n, hn⟩ : ∃ n, n = L.length := ⟨_, rfl⟩
  obtain ⟨m, hm⟩ : ∃ m, m = L.length - 1 := ⟨_, rfl⟩
  rw [← hm, ← hn] at HS
  rw [← hn] at HC h512 hpos hl ⊢
  have hsub : IntKind.i64.wrap ((n : Int) - 1) = m := by rw [IntKind.wrap_i64]; omega
  clear HCK hE hS hc hlay hsh hC hCb hv hL he hn hm
  go_enter Tryd.func8, Tryd.ntmps8
  go_wp2_with fail
  refine HC.out.mono ?_
  rintro e w1 ⟨rfl, rfl⟩
  go_wp2_with fail
  refine HS.out.mono ?_
  rintro e w1 ⟨rfl, hb⟩
  go_wp2
  go_ret
  exact ⟨rfl, hb⟩
end Go.Proofs.YthiiinbkkjacbaaDoor
