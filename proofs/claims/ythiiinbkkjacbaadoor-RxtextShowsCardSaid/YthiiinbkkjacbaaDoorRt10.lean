/- TxtHex, TxtRead, TxtItem, TxtClassP, put together. -/
import Derived.Test.YthiiinbkkjacbaaDoorRt09
import Derived.Test.YthiiinbkkjacbaaDoorRt06
import Derived.Test.YthiiinbkkjacbaaDoorRt05
/- Contracts: digits of a byte in a text (hexDigit, readHex). -/
namespace Go.Proofs.YthiiinbkkjacbaaDoor
open Go.RowKit

theorem drop_at {s : ByteArray} {k : Nat} {c : UInt8} {r : List UInt8} (h : s.data.toList.drop k = c :: r) : (∃ hp : k < s.size, s[k]'hp = c) ∧ s.data.toList.drop (k + 1) = r ∧ r.length + k + 1 = s.size := by
  have hl : k < s.data.toList.length := by
    rcases Nat.lt_or_ge k s.data.toList.length with g | g
    · exact g
    · rw [List.drop_eq_nil_of_le g] at h
      cases h
  have hs : s.data.toList.length = s.size := by simp
  rw [List.drop_eq_getElem_cons hl] at h
  obtain ⟨h1, h2⟩ := List.cons.inj h
  refine ⟨⟨by omega, ?_⟩, h2, ?_⟩
  · rw [← h1]
    rfl
  · rw [← h2, List.length_drop]
    omega
theorem drop_nil {s : ByteArray} {k : Nat} (h : s.data.toList.drop k = []) : s.size ≤ k := by
  have := List.drop_eq_nil_iff.1 h
  simpa using this
/-- the byte at a place, as a number -/
theorem num_at {s : ByteArray} {k : Nat} {c : UInt8} (h : ∃ hp : k < s.size, s[k]'hp = c) : ∃ hp : k < s.size, ((s[k]'hp).toNat : Int) = (c.toNat : Int) := by
  obtain ⟨hp, e⟩ := h
  exact ⟨hp, by rw [e]⟩

theorem unhex_zero (c : UInt8) : (unhexV (strOfNums [48, (c.toNat : Int)])).2 = isHex c := by
  have e : (strOfNums [48, (c.toNat : Int)]).data.toList = [48, c] := by
    rw [strOfNums_data]
    simp
  have h48 : digOf 48 = 0 := by decide
  unfold unhexV isHex
  rw [e]
  simp only [h48]
  by_cases h : 0 ≤ digOf c
  · simp [h]
  · rw [if_neg (by omega)]
    simp [h]
set_option maxRecDepth 100000 in
theorem hexDigit_calls (c : UInt8) (w : World) : Calls Tryd.prog 84 #[.int .u8 (c.toNat : Int)] w fun e w' => e = .returned (.bool (isHex c)) ∧ Below w.heap.size w w' := by
  have hz := unhex_zero c
  have HU := hidden (fun w => unhex_calls (strOfNums [48, (c.toNat : Int)]) w)
  rw [hz] at HU
  clear hz
  generalize unhexV (strOfNums [48, (c.toNat : Int)]) = u at *
  have h3 := fun w a b => conv_two0 w a b
  generalize (c.toNat : Int) = n at *
  go_enter Tryd.func84, Tryd.ntmps84
  go_wp2_with fail
  refine (HU.out _).mono ?_
  rintro e w1 ⟨rfl, rfl⟩
  go_wp2
  go_ret
  exact ⟨rfl, by go_grown⟩
theorem rdHex_no {a : UInt8} (h : isHex a = false) (r : List UInt8) : rdHex (a :: r) = (0, 0, false) := by
  cases r <;> simp [rdHex, h]
theorem ret_cib {a b c d : Int} {x y : Bool} (h : a = c) (h' : b = d) (h2 : x = y) : Ending.returned (.tuple #[.int .u8 a, .int .i64 b, .bool x]) = .returned (.tuple #[.int .u8 c, .int .i64 d, .bool y]) := by rw [h, h', h2]
set_option maxHeartbeats 2000000 in
set_option maxRecDepth 100000 in
theorem readHex_calls (s : ByteArray) (k : Nat) (w : World) (hk : k ≤ s.size) (hs : s.size ≤ 1000000000) :
    Calls Tryd.prog 82 #[.string s, .int .i64 k] w fun e w' => e = .returned (.tuple #[.int .u8 ((rdHex (s.data.toList.drop k)).1 : Nat), .int .i64 ((k + (rdHex (s.data.toList.drop k)).2.1 : Nat) : Int), .bool (rdHex (s.data.toList.drop k)).2.2]) ∧ Below w.heap.size w w' := by
  have d2 : decide ((k : Int) < (k : Int) + 2) = true := decide_eq_true (by omega)
  match hl : s.data.toList.drop k with
  | [] =>
    have h0 := drop_nil hl
    have hq : ((k : Int) == s.size) = true := by simp; omega
    clear hl
    go_enter Tryd.func82, Tryd.ntmps82
    go_wp2
    refine wp_loop_rounds 3 ?_
    rw [rounds_succ]
    go_wp2
    go_ret3
    exact ⟨rfl, by go_grown⟩
  | a :: r =>
    obtain ⟨h1, h2, h3⟩ := drop_at hl
    obtain ⟨hp, hx⟩ := num_at h1
    have hq : ((k : Int) == s.size) = false := by simp; omega
    have HA := hidden (hexDigit_calls a)
    clear h1
    cases ha : isHex a
    · have hres : rdHex (a :: r) = (0, 0, false) := rdHex_no ha r
      rw [ha] at HA
      have HR := hidden hres
      clear hres ha h2 h3 hl
      generalize (a.toNat : Int) = n at *
      go_enter Tryd.func82, Tryd.ntmps82
      go_wp2
      refine wp_loop_rounds 3 ?_
      rw [rounds_succ]
      go_wp2_with fail
      refine (HA.out _).mono ?_
      rintro e w1 ⟨rfl, hb1⟩
      go_wp2
      go_ret3
      rw [HR.out]
      exact ⟨rfl, hb1⟩
    · rw [ha] at HA
      match hr : r with
      | [] =>
        have hres : rdHex [a] = (0, 1, false) := by simp [rdHex, ha]
        have HR := hidden hres
        have hq1 : ((k : Int) + 1 == s.size) = true := by
          simp at h3
          simp
          omega
        have d3 : decide ((k : Int) + 1 < (k : Int) + 2) = true := decide_eq_true (by omega)
        clear hres ha h2 h3 hl
        generalize (a.toNat : Int) = n at *
        go_enter Tryd.func82, Tryd.ntmps82
        go_wp2
        refine wp_loop_rounds 3 ?_
        rw [rounds_succ]
        go_wp2_with fail
        refine (HA.out _).mono ?_
        rintro e w1 ⟨rfl, hb1⟩
        go_wp2
        rw [rounds_succ]
        go_wp2
        go_ret3
        rw [HR.out]
        exact ⟨rfl, hb1⟩
      | b :: t =>
        obtain ⟨h4, _, h6⟩ := drop_at h2
        obtain ⟨hp1, hx1⟩ := num_at h4
        have hq1 : ((k : Int) + 1 == s.size) = false := by simp; omega
        have d3 : decide ((k : Int) + 1 < (k : Int) + 2) = true := decide_eq_true (by omega)
        have d4 : decide ((k : Int) + 2 < (k : Int) + 2) = false := decide_eq_false (by omega)
        have HB := hidden (hexDigit_calls b)
        have hU := fun w => unhex_calls (s.extract k (k + 2)) w
        have hU2 : unhexV (s.extract k (k + 2)) = if 0 ≤ digOf a ∧ 0 ≤ digOf b then (digOf a * 16 + digOf b, true) else (0, false) := by
          have e : (s.extract k (k + 2)).data.toList = [a, b] := by
            rw [txt_extract, list_txt, List.drop_take, hl]
            simp
          unfold unhexV
          rw [e]
        have ha' : 0 ≤ digOf a := of_decide_eq_true ha
        have hdb := (digOf_all b).1
        cases hb : isHex b
        · have hres : rdHex (a :: b :: t) = (0, 1, false) := by simp [rdHex, ha, hb]
          have HR := hidden hres
          rw [hb] at HB
          clear hres ha h2 h3 hl h4 h6 hU hU2 ha' hdb
          generalize (a.toNat : Int) = n at *
          generalize (b.toNat : Int) = m at *
          go_enter Tryd.func82, Tryd.ntmps82
          go_wp2
          refine wp_loop_rounds 3 ?_
          rw [rounds_succ]
          go_wp2_with fail
          refine (HA.out _).mono ?_
          rintro e w1 ⟨rfl, hb1⟩
          go_wp2
          rw [rounds_succ]
          go_wp2_with fail
          refine (HB.out _).mono ?_
          rintro e w2 ⟨rfl, hb2⟩
          go_wp2
          go_ret3
          rw [HR.out]
          exact ⟨rfl, below_after hb1 hb2⟩
        · have hb' : 0 ≤ digOf b := of_decide_eq_true hb
          rw [hU2, if_pos ⟨ha', hb'⟩] at hU
          have hres : rdHex (a :: b :: t) = ((digOf a * 16 + digOf b).toNat, 2, true) := by simp [rdHex, ha, hb]
          have HR := hidden hres
          have HU := hidden hU
          obtain ⟨v, hv⟩ : ∃ v : Nat, digOf a * 16 + digOf b = v := ⟨(digOf a * 16 + digOf b).toNat, by omega⟩
          rw [hv] at HU HR
          rw [hb] at HB
          have e2 : ((k : Int) + 2).toNat = k + 2 := by omega
          have dl : (k : Int) + 2 ≤ s.size := by omega
          have dk : (k : Int) ≤ (k : Int) + 2 := by omega
          have dn : (0 : Int) ≤ (k : Int) := by omega
          clear hres ha h2 h3 hl h4 h6 hU hU2 ha' hdb hb' hv
          generalize (a.toNat : Int) = n at *
          generalize (b.toNat : Int) = m at *
          go_enter Tryd.func82, Tryd.ntmps82
          go_wp2
          refine wp_loop_rounds 3 ?_
          rw [rounds_succ]
          go_wp2_with fail
          refine (HA.out _).mono ?_
          rintro e w1 ⟨rfl, hb1⟩
          go_wp2
          rw [rounds_succ]
          go_wp2_with fail
          refine (HB.out _).mono ?_
          rintro e w2 ⟨rfl, hb2⟩
          go_wp2
          rw [rounds_succ]
          go_wp2_with fail
          refine (HU.out _).mono ?_
          rintro e w3 ⟨rfl, rfl⟩
          go_wp2
          go_ret3
          rw [HR.out]
          exact ⟨rfl, below_after hb1 hb2⟩
end Go.Proofs.YthiiinbkkjacbaaDoor

/- Contracts: a character of a text read (readEscape, readChar), and what stands at a place (standsAt). -/
namespace Go.Proofs.YthiiinbkkjacbaaDoor
open Go.RowKit

theorem index_at (l : List UInt8) (c : UInt8) (w : World) : Calls Tryd.prog 36 #[.string (txt l), .int .u8 (c.toNat : Int)] w fun e w' => e = .returned (.int .i64 (Lib.indexByte l c)) ∧ w = w' := by
  have h := index_calls (txt l) (c.toNat : Int) w
  have e : (c.toNat : Int).toNat.toUInt8 = c := by simp
  rw [e, list_txt] at h
  exact h
theorem toNat_ne {c d : UInt8} (h : c ≠ d) : ((c.toNat : Int) == (d.toNat : Int)) = false := by
  rw [Bool.eq_false_iff]
  intro e
  rw [beq_iff_eq] at e
  exact h (UInt8.toNat_inj.1 (by omega))
theorem rdEsc_hex (r : List UInt8) : rdEsc (120 :: r) = ((rdHex r).1, (rdHex r).2.1 + 1, (rdHex r).2.2) := by simp [rdEsc]
set_option maxHeartbeats 4000000 in
set_option maxRecDepth 100000 in
theorem readEscape_calls (s : ByteArray) (k : Nat) (w : World) (hk : k ≤ s.size) (hs : s.size ≤ 1000000000) :
    Calls Tryd.prog 81 #[.string s, .int .i64 k] w fun e w' => e = .returned (.tuple #[.int .u8 ((rdEsc (s.data.toList.drop k)).1 : Nat), .int .i64 ((k + (rdEsc (s.data.toList.drop k)).2.1 : Nat) : Int), .bool (rdEsc (s.data.toList.drop k)).2.2]) ∧ Below w.heap.size w w' := by
  match hl : s.data.toList.drop k with
  | [] =>
    have h0 := drop_nil hl
    have hq : ((k : Int) == s.size) = true := by simp; omega
    clear hl
    go_enter Tryd.func81, Tryd.ntmps81
    go_wp2
    go_ret3
    exact ⟨rfl, by go_grown⟩
  | c :: r =>
    obtain ⟨h1, h2, h3⟩ := drop_at hl
    obtain ⟨hp, hx⟩ := num_at h1
    have hq : ((k : Int) == s.size) = false := by simp; omega
    have HI := hidden (index_at [110, 116, 114] c)
    by_cases c1 : c = 110 ∨ c = 116 ∨ c = 114
    · clear h1 h2
      rcases c1 with rfl | rfl | rfl
      case' inl => rw [show Lib.indexByte [110, 116, 114] 110 = 0 by decide] at HI
      case' inr.inl => rw [show Lib.indexByte [110, 116, 114] 116 = 1 by decide] at HI
      case' inr.inr => rw [show Lib.indexByte [110, 116, 114] 114 = 2 by decide] at HI
      all_goals
        clear hl h3
        go_enter Tryd.func81, Tryd.ntmps81
        go_wp2_with fail
        refine (HI.out _).mono ?_
        rintro e w1 ⟨rfl, rfl⟩
        go_wp2
        go_ret3
        exact ⟨rfl, by go_grown⟩
    · have hi : Lib.indexByte [110, 116, 114] c = -1 := index_not.2 (by simpa using c1)
      rw [hi] at HI
      by_cases c2 : c = 120
      · subst c2
        have hX := fun w => readHex_calls s (k + 1) w (by omega) hs
        rw [h2] at hX
        have HX := hidden hX
        have HR := hidden (rdEsc_hex r)
        clear hl h1 h2 h3 hX hi c1
        go_enter Tryd.func81, Tryd.ntmps81
        go_wp2_with fail
        refine (HI.out _).mono ?_
        rintro e w1 ⟨rfl, rfl⟩
        go_wp2_with fail
        refine (HX.out _).mono ?_
        rintro e w1 ⟨rfl, hb1⟩
        go_wp2
        go_ret3
        rw [HR.out]
        exact ⟨ret_cib rfl (by simp only; omega) rfl, hb1⟩
      · have q120 : ((c.toNat : Int) == 120) = false := toNat_ne (d := 120) c2
        have HV := hidden (visible_calls c.toNat)
        have HA := hidden (alnum_calls c.toNat)
        have hE : rdEsc (c :: r) = if vis c.toNat = false ∨ aln c.toNat = true then (0, 0, false) else (c.toNat, 1, true) := by
          simp only [not_or] at c1
          simp only [rdEsc]
          rw [if_neg c1.1, if_neg c1.2.1, if_neg c1.2.2, if_neg c2]
        have HE := hidden hE
        clear hl h1 h2 h3 hi c1 c2 hE
        cases hv : vis c.toNat
        · rw [hv] at HV
          have hres := HE.out
          rw [if_pos (.inl hv)] at hres
          have HR := hidden hres
          clear hres HE hv
          go_enter Tryd.func81, Tryd.ntmps81
          go_wp2_with fail
          refine (HI.out _).mono ?_
          rintro e w1 ⟨rfl, rfl⟩
          go_wp2_with fail
          refine (HV.out _).mono ?_
          rintro e w1 ⟨rfl, rfl⟩
          go_wp2
          go_ret3
          rw [HR.out]
          exact ⟨rfl, by go_grown⟩
        · rw [hv] at HV
          cases ha : aln c.toNat
          · rw [ha] at HA
            have hres := HE.out
            rw [if_neg (by rw [hv, ha]; simp)] at hres
            have HR := hidden hres
            clear hres HE hv ha
            go_enter Tryd.func81, Tryd.ntmps81
            go_wp2_with fail
            refine (HI.out _).mono ?_
            rintro e w1 ⟨rfl, rfl⟩
            go_wp2_with fail
            refine (HV.out _).mono ?_
            rintro e w1 ⟨rfl, rfl⟩
            go_wp2_with fail
            refine (HA.out _).mono ?_
            rintro e w1 ⟨rfl, rfl⟩
            go_wp2
            go_ret3
            rw [HR.out]
            exact ⟨rfl, by go_grown⟩
          · rw [ha] at HA
            have hres := HE.out
            rw [if_pos (.inr ha)] at hres
            have HR := hidden hres
            clear hres HE hv ha
            go_enter Tryd.func81, Tryd.ntmps81
            go_wp2_with fail
            refine (HI.out _).mono ?_
            rintro e w1 ⟨rfl, rfl⟩
            go_wp2_with fail
            refine (HV.out _).mono ?_
            rintro e w1 ⟨rfl, rfl⟩
            go_wp2_with fail
            refine (HA.out _).mono ?_
            rintro e w1 ⟨rfl, rfl⟩
            go_wp2
            go_ret3
            rw [HR.out]
            exact ⟨rfl, by go_grown⟩
set_option maxHeartbeats 4000000 in
set_option maxRecDepth 100000 in
theorem readChar_calls (s : ByteArray) (k : Nat) (R : List UInt8) (w : World) (hk : k ≤ s.size) (hs : s.size ≤ 1000000000) :
    Calls Tryd.prog 75 #[.string s, .int .i64 k, .string (txt R)] w fun e w' => e = .returned (.tuple #[.int .u8 ((rdChar R (s.data.toList.drop k)).1 : Nat), .int .i64 ((k + (rdChar R (s.data.toList.drop k)).2.1 : Nat) : Int), .bool (rdChar R (s.data.toList.drop k)).2.2]) ∧ Below w.heap.size w w' := by
  match hl : s.data.toList.drop k with
  | [] =>
    have h0 := drop_nil hl
    have hq : ((k : Int) == s.size) = true := by simp; omega
    clear hl
    go_enter Tryd.func75, Tryd.ntmps75
    go_wp2
    go_ret3
    exact ⟨rfl, by go_grown⟩
  | c :: r =>
    obtain ⟨h1, h2, h3⟩ := drop_at hl
    obtain ⟨hp, hx⟩ := num_at h1
    have hq : ((k : Int) == s.size) = false := by simp; omega
    by_cases c2 : c = 92
    · subst c2
      have hX := fun w => readEscape_calls s (k + 1) w (by omega) hs
      rw [h2] at hX
      have HX := hidden hX
      have hr : rdChar R (92 :: r) = ((rdEsc r).1, (rdEsc r).2.1 + 1, (rdEsc r).2.2) := by simp [rdChar]
      have HR := hidden hr
      clear hl h1 h2 h3 hX hr
      go_enter Tryd.func75, Tryd.ntmps75
      go_wp2_with fail
      refine (HX.out _).mono ?_
      rintro e w1 ⟨rfl, hb1⟩
      go_wp2
      go_ret3
      rw [HR.out]
      exact ⟨ret_cib rfl (by simp only; omega) rfl, hb1⟩
    · have q92 : ((c.toNat : Int) == 92) = false := toNat_ne (d := 92) c2
      have HV := hidden (visible_calls c.toNat)
      have HI := hidden (index_at R c)
      have hE : rdChar R (c :: r) = if vis c.toNat = false ∨ c ∈ R then (0, 0, false) else (c.toNat, 1, true) := by
        simp only [rdChar]
        rw [if_neg c2]
      have HE := hidden hE
      clear hl h1 h2 h3 c2 hE
      cases hv : vis c.toNat
      · rw [hv] at HV
        have hres := HE.out
        rw [if_pos (.inl hv)] at hres
        have HR := hidden hres
        clear hres HE hv
        go_enter Tryd.func75, Tryd.ntmps75
        go_wp2_with fail
        refine (HV.out _).mono ?_
        rintro e w1 ⟨rfl, rfl⟩
        go_wp2
        go_ret3
        rw [HR.out]
        exact ⟨rfl, by go_grown⟩
      · rw [hv] at HV
        rcases index_in R c with ⟨m1, m2⟩ | ⟨m1, m2⟩
        · have hres := HE.out
          rw [if_pos (.inr m1)] at hres
          have HR := hidden hres
          have hd : decide (0 ≤ Lib.indexByte R c) = true := decide_eq_true m2
          clear hres HE hv m1
          go_enter Tryd.func75, Tryd.ntmps75
          go_wp2_with fail
          refine (HV.out _).mono ?_
          rintro e w1 ⟨rfl, rfl⟩
          go_wp2_with fail
          refine (HI.out _).mono ?_
          rintro e w1 ⟨rfl, rfl⟩
          go_wp2
          go_ret3
          rw [HR.out]
          exact ⟨rfl, by go_grown⟩
        · have hres := HE.out
          rw [if_neg (by rw [hv]; simp [m1])] at hres
          have HR := hidden hres
          rw [m2] at HI
          clear hres HE hv m1
          go_enter Tryd.func75, Tryd.ntmps75
          go_wp2_with fail
          refine (HV.out _).mono ?_
          rintro e w1 ⟨rfl, rfl⟩
          go_wp2_with fail
          refine (HI.out _).mono ?_
          rintro e w1 ⟨rfl, rfl⟩
          go_wp2
          go_ret3
          rw [HR.out]
          exact ⟨rfl, by go_grown⟩
set_option maxRecDepth 100000 in
theorem stands_calls (s : ByteArray) (k : Nat) (d : UInt8) (w : World) :
    Calls Tryd.prog 78 #[.string s, .int .i64 k, .int .u8 (d.toNat : Int)] w fun e w' => e = .returned (.bool (stands (s.data.toList.drop k) d)) ∧ w = w' := by
  match hl : s.data.toList.drop k with
  | [] =>
    have h0 := drop_nil hl
    have hq : decide ((k : Int) < s.size) = false := decide_eq_false (by omega)
    clear hl
    go_enter Tryd.func78, Tryd.ntmps78
    go_wp2
    go_ret
    exact ⟨rfl, rfl⟩
  | c :: r =>
    obtain ⟨h1, h2, h3⟩ := drop_at hl
    obtain ⟨hp, hx⟩ := num_at h1
    have hq : decide ((k : Int) < s.size) = true := decide_eq_true (by omega)
    have hE : stands (c :: r) d = ((c.toNat : Int) == (d.toNat : Int)) := by
      by_cases h : c = d
      · subst h
        simp [stands]
      · rw [toNat_ne h]
        simp [stands, h]
    have HE := hidden hE
    clear hl h1 h2 h3 hE
    generalize (c.toNat : Int) = n at *
    generalize (d.toNat : Int) = m at *
    go_enter Tryd.func78, Tryd.ntmps78
    go_wp2
    go_ret
    exact ⟨ret_b HE.out.symm, rfl⟩
end Go.Proofs.YthiiinbkkjacbaaDoor

/- Contracts: the dot's set, and an item of a class read (dot, readItem). -/
namespace Go.Proofs.YthiiinbkkjacbaaDoor
open Go.RowKit

theorem one_nat (n : Nat) (w : World) (h1 : n < 256) : Calls Tryd.prog 40 #[.int .u8 n] w fun e w' => e = .returned (.agg #[.int .u64 (word (fOne n) 0), .int .u64 (word (fOne n) 1), .int .u64 (word (fOne n) 2), .int .u64 (word (fOne n) 3)]) ∧ Below w.heap.size w w' := one_calls (n : Int) w (by omega) (by omega)
theorem ret_set3 {fn : Func} {R : Ending → World → Prop} {a : Act} {w : World} {B p u v : Nat} {f g : Nat → Bool} {x y : Value} (h : fn.results = #[.cell p 25, .tmp u, .tmp v]) (hp : a.tmps.getD p undef = .pointer (some ⟨B, 0, none⟩))
    (hu : a.tmps.getD u undef = x) (hv : a.tmps.getD v undef = y) (hd : a.defers = []) (hS : SetAt w B f) (e : ∀ n, n < 256 → f n = g n) (hR : R (.returned (.tuple #[(.agg #[.int .u64 (word (g) 0), .int .u64 (word (g) 1), .int .u64 (word (g) 2), .int .u64 (word (g) 3)]), x, y])) w) : bodyPost Tryd.prog fn R .ret a w := by
  refine bodyPost_ret ?_ hd hR
  have hS' := hS.congr e
  have h1 : (results fn a.tmps).run Tryd.prog w = ((asAddr (a.tmps.getD p undef)).run Tryd.prog w).andThen fun a' w₁ => ((loadVar 25 a').run Tryd.prog w₁).andThen fun r w₂ => .ok (.tuple #[r, a.tmps.getD u undef, a.tmps.getD v undef]) w₂ := by
    simp only [results, h]
    simp [Sem.run_bind, Result.andThen]
  rw [h1, hp]
  simp only [asAddr, Sem.run_pure, Result.andThen]
  rw [run_loadVar_row w B 25 25 _ (0, 0) _ hS' Tryd.underlying25 rfl (by kernel_rfl)]
  simp only [hu, hv]
theorem SetAt.storedNone {w : World} {B : Nat} {f : Nat → Bool} (h : SetAt w B f) :
    SetAt ((((w.setCell ⟨B, 0, none⟩ (.int .u64 0)).setCell ⟨B, 1, none⟩ (.int .u64 0)).setCell ⟨B, 2, none⟩ (.int .u64 0)).setCell ⟨B, 3, none⟩ (.int .u64 0)) B fNone :=
  h.stored4 (by rw [word_none]; rfl) (by rw [word_none]; rfl) (by rw [word_none]; rfl) (by rw [word_none]; rfl)
set_option maxRecDepth 100000 in
theorem dot_calls (w : World) : Calls Tryd.prog 20 #[] w fun e w' => e = .returned (.agg #[.int .u64 (word (fDot) 0), .int .u64 (word (fDot) 1), .int .u64 (word (fDot) 2), .int .u64 (word (fDot) 3)]) ∧ Below w.heap.size w w' := by
  have H1 := hidden (fun w => one_nat 10 w (by omega))
  have H2 := hidden (not_calls (fOne 10))
  go_enter Tryd.func20, Tryd.ntmps20
  go_wp2_with fail
  refine (H1.out _).mono ?_
  rintro e w1 ⟨rfl, hb1⟩
  go_wp2_with fail
  refine (H2.out _).mono ?_
  rintro e w2 ⟨rfl, hb2⟩
  have HA := hidden (((SetAt.newNone w _ rfl).below hb1).below hb2)
  have HB := hidden (below_after (below_after ((Below.refl w.heap.size w).alloc (Nat.le_refl _) _) hb1) hb2)
  obtain ⟨d0, d1, d2, d3, g0, g1, g2, g3⟩ := HA.out.facts
  go_wp2
  refine ret_setAt Tryd.results20 rfl rfl HA.out.stored (fun n hn => rfl) ⟨rfl, below_cells HB.out _ (by omega) _ _ _ _⟩
set_option maxHeartbeats 4000000 in
set_option maxRecDepth 100000 in
theorem item_calls (s : ByteArray) (k : Nat) (w : World) (hk : k ≤ s.size) (hs : s.size ≤ 1000000000) (r : (Nat → Bool) × Nat × Bool) (hr : r = rdItem (s.data.toList.drop k)) :
    Calls Tryd.prog 79 #[.string s, .int .i64 k] w fun e w' => e = .returned (.tuple #[(.agg #[.int .u64 (word (r.1) 0), .int .u64 (word (r.1) 1), .int .u64 (word (r.1) 2), .int .u64 (word (r.1) 3)]), .int .i64 ((k + r.2.1 : Nat) : Int), .bool r.2.2]) ∧ Below w.heap.size w w' := by
  have hC := fun w => readChar_calls s k RC w hk hs
  have hf := rdChar_fit RC (s.data.toList.drop k)
  unfold rdItem at hr
  rw [List.drop_drop] at hr
  have hd2 : s.data.toList.drop (k + ((rdChar RC (s.data.toList.drop k)).2.1 + 1)) = s.data.toList.drop (k + (rdChar RC (s.data.toList.drop k)).2.1 + 1) := by rw [Nat.add_assoc]
  rw [List.drop_drop, hd2] at hr
  obtain ⟨⟨a, m, o⟩, hA⟩ : ∃ A, A = rdChar RC (s.data.toList.drop k) := ⟨_, rfl⟩
  rw [← hA] at hC hf hr
  simp only at hC hf hr
  obtain ⟨p, hp⟩ : ∃ p, p = k + m := ⟨_, rfl⟩
  have hl : (s.data.toList.drop k).length = s.size - k := by simp
  have hps : p ≤ s.size := by omega
  have ha := hf.2.1
  rw [← hp] at hC hr
  have hC2 := fun h w => readChar_calls s (p + 1) RC w h hs
  have hf2 := rdChar_fit RC (s.data.toList.drop (p + 1))
  have hl2 : (s.data.toList.drop (p + 1)).length = s.size - (p + 1) := by simp
  obtain ⟨⟨b, m2, o2⟩, hA2⟩ : ∃ A, A = rdChar RC (s.data.toList.drop (p + 1)) := ⟨_, rfl⟩
  rw [← hA2] at hC2 hr hf2
  simp only at hC2 hr hf2
  obtain ⟨q, hq⟩ : ∃ q, q = p + 1 + m2 := ⟨_, rfl⟩
  rw [← hq] at hC2
  have hS := stands_calls s p 45
  rw [show (((45 : UInt8).toNat : Nat) : Int) = 45 from rfl] at hS
  have hdash : stands (s.data.toList.drop p) 45 = true → p + 1 ≤ s.size := fun h => by
    rcases Nat.lt_or_ge p s.size with g | g
    · exact g
    · rw [List.drop_eq_nil_of_le (by simpa using g)] at h
      exact absurd h (by simp [stands])
  have HC := hidden hC
  have hb2 := hf2.2.1
  have hq2 : 1 + m2 ≤ q := by omega
  have hadd : IntKind.i64.wrap ((p : Int) + 1) = ((p + 1 : Nat) : Int) := by rw [IntKind.wrap_i64]; omega
  obtain ⟨c, hcc⟩ : ∃ c, c = stands (s.data.toList.drop p) 45 := ⟨_, rfl⟩
  rw [← hcc] at hS hr hdash
  have HS := hidden hS
  have hm : k + m = p := hp.symm
  have hqs : p + 1 ≤ s.size → q ≤ s.size := fun h => by omega
  have hm2 : k + (m + 1 + m2) = q := by omega
  have hm3 : k + (m + 1 + m2 - 1) = q - 1 := by omega
  clear hC hS hA hA2 hl hl2 hcc hd2 hf hf2 hp
  cases o
  · rw [if_pos rfl] at hr
    have HM := hidden hm
    clear hm hm2 hm3 hq hC2 hdash
    subst hr
    go_enter Tryd.func79, Tryd.ntmps79
    go_wp2_with fail
    refine (HC.out _).mono ?_
    rintro e w1 ⟨rfl, hb1⟩
    have HA := hidden ((SetAt.newNone w _ rfl).below hb1)
    have HB := hidden (below_after ((Below.refl w.heap.size w).alloc (Nat.le_refl _) _) hb1)
    obtain ⟨d0, d1, d2, d3, g0, g1, g2, g3⟩ := HA.out.facts
    clear hb1
    go_wp2
    refine ret_set3 Tryd.results79 rfl rfl rfl rfl HA.out.storedNone (fun n hn => rfl) ⟨?_, below_cells HB.out _ (by omega) _ _ _ _⟩
    exact congrArg (fun z : Nat => Ending.returned (.tuple #[_, .int .i64 (z : Int), _])) HM.out.symm
  · rw [if_neg (by simp)] at hr
    cases c
    · rw [if_neg (by simp)] at hr
      have HM := hidden hm
      clear hm hm2 hm3 hq hC2 hdash
      subst hr
      go_enter Tryd.func79, Tryd.ntmps79
      go_wp2_with fail
      refine (HC.out _).mono ?_
      rintro e w1 ⟨rfl, hb1⟩
      go_wp2_with fail
      refine (HS.out _).mono ?_
      rintro e w2 ⟨rfl, rfl⟩
      go_wp2_with fail
      refine (one_nat a _ ha).mono ?_
      rintro e w2 ⟨rfl, hb2'⟩
      have HA := hidden (((SetAt.newNone w _ rfl).below hb1).below hb2')
      have HB := hidden (below_after (below_after ((Below.refl w.heap.size w).alloc (Nat.le_refl _) _) hb1) hb2')
      obtain ⟨d0, d1, d2, d3, g0, g1, g2, g3⟩ := HA.out.facts
      clear hb1 hb2'
      go_wp2
      refine ret_set3 Tryd.results79 rfl rfl rfl rfl HA.out.stored (fun n hn => rfl) ⟨?_, below_cells HB.out _ (by omega) _ _ _ _⟩
      exact congrArg (fun z : Nat => Ending.returned (.tuple #[_, .int .i64 (z : Int), _])) HM.out.symm
    · rw [if_pos rfl] at hr
      have hp1 := hdash rfl
      have HC2 := hidden (fun w => hC2 hp1 w)
      cases o2
      · rw [if_pos rfl] at hr
        have HM := hidden hm2
        clear hm hm2 hm3 hq hC2 hdash
        subst hr
        go_enter Tryd.func79, Tryd.ntmps79
        go_wp2_with fail
        refine (HC.out _).mono ?_
        rintro e w1 ⟨rfl, hb1⟩
        go_wp2_with fail
        refine (HS.out _).mono ?_
        rintro e w2 ⟨rfl, rfl⟩
        go_wp2_with fail
        refine (HC2.out _).mono ?_
        rintro e w2 ⟨rfl, hb2'⟩
        have HA := hidden (((SetAt.newNone w _ rfl).below hb1).below hb2')
        have HB := hidden (below_after (below_after ((Below.refl w.heap.size w).alloc (Nat.le_refl _) _) hb1) hb2')
        obtain ⟨d0, d1, d2, d3, g0, g1, g2, g3⟩ := HA.out.facts
        clear hb1 hb2'
        go_wp2
        refine ret_set3 Tryd.results79 rfl rfl rfl rfl HA.out.storedNone (fun n hn => rfl) ⟨?_, below_cells HB.out _ (by omega) _ _ _ _⟩
        exact congrArg (fun z : Nat => Ending.returned (.tuple #[_, .int .i64 (z : Int), _])) HM.out.symm
      · rw [if_neg (by simp)] at hr
        by_cases hlt : b < a
        · rw [if_pos hlt] at hr
          have HM := hidden hm3
          have hd : decide ((b : Int) < a) = true := decide_eq_true (by omega)
          have hqq := hqs hp1
          have hq1 : ((q : Nat) : Int) - 1 = ((q - 1 : Nat) : Int) := by omega
          clear hm hm2 hm3 hq hC2 hdash
          subst hr
          go_enter Tryd.func79, Tryd.ntmps79
          go_wp2_with fail
          refine (HC.out _).mono ?_
          rintro e w1 ⟨rfl, hb1⟩
          go_wp2_with fail
          refine (HS.out _).mono ?_
          rintro e w2 ⟨rfl, rfl⟩
          go_wp2_with fail
          refine (HC2.out _).mono ?_
          rintro e w2 ⟨rfl, hb2'⟩
          have HA := hidden (((SetAt.newNone w _ rfl).below hb1).below hb2')
          have HB := hidden (below_after (below_after ((Below.refl w.heap.size w).alloc (Nat.le_refl _) _) hb1) hb2')
          obtain ⟨d0, d1, d2, d3, g0, g1, g2, g3⟩ := HA.out.facts
          clear hb1 hb2'
          go_wp2
          refine ret_set3 Tryd.results79 rfl rfl rfl rfl HA.out.storedNone (fun n hn => rfl) ⟨?_, below_cells HB.out _ (by omega) _ _ _ _⟩
          exact congrArg (fun z : Nat => Ending.returned (.tuple #[_, .int .i64 (z : Int), _])) HM.out.symm
        · rw [if_neg hlt] at hr
          have HM := hidden hm2
          have hd : decide ((b : Int) < a) = false := decide_eq_false (by omega)
          clear hm hm2 hm3 hq hC2 hdash
          subst hr
          go_enter Tryd.func79, Tryd.ntmps79
          go_wp2_with fail
          refine (HC.out _).mono ?_
          rintro e w1 ⟨rfl, hb1⟩
          go_wp2_with fail
          refine (HS.out _).mono ?_
          rintro e w2 ⟨rfl, rfl⟩
          go_wp2_with fail
          refine (HC2.out _).mono ?_
          rintro e w2 ⟨rfl, hb2'⟩
          go_wp2_with fail
          refine (span_calls (a : Int) (b : Int) _).mono ?_
          rintro e w3 ⟨rfl, hb3⟩
          have HA := hidden ((((SetAt.newNone w _ rfl).below hb1).below hb2').below hb3)
          have HB := hidden (below_after (below_after (below_after ((Below.refl w.heap.size w).alloc (Nat.le_refl _) _) hb1) hb2') hb3)
          obtain ⟨d0, d1, d2, d3, g0, g1, g2, g3⟩ := HA.out.facts
          clear hb1 hb2' hb3
          go_wp2
          refine ret_set3 Tryd.results79 rfl rfl rfl rfl HA.out.stored (fun n hn => rfl) ⟨?_, below_cells HB.out _ (by omega) _ _ _ _⟩
          exact congrArg (fun z : Nat => Ending.returned (.tuple #[_, .int .i64 (z : Int), _])) HM.out.symm
end Go.Proofs.YthiiinbkkjacbaaDoor

/- Contracts: a class, a dot or a character read as a set (readClass, readSet). -/
namespace Go.Proofs.YthiiinbkkjacbaaDoor
open Go.RowKit

/-- two sets in a slice of the call's own -/
theorem sets_two {w : World} (f g : Nat → Bool) (b : Nat) (hb : b = w.heap.size) : Sets (w.alloc (.cells #[.int .u64 (word (f) 0), .int .u64 (word (f) 1), .int .u64 (word (f) 2), .int .u64 (word (f) 3), .int .u64 (word (g) 0), .int .u64 (word (g) 1), .int .u64 (word (g) 2), .int .u64 (word (g) 3)] 25)) (some ⟨b, 0, none⟩) 2 [f, g] := by
  subst hb
  refine ⟨rfl, fun _ => ⟨w.heap.size, 0, rfl, by simp, fun i hi j hj => ?_⟩⟩
  have h : (w.alloc (.cells #[.int .u64 (word (f) 0), .int .u64 (word (f) 1), .int .u64 (word (f) 2), .int .u64 (word (f) 3), .int .u64 (word (g) 0), .int .u64 (word (g) 1), .int .u64 (word (g) 2), .int .u64 (word (g) 3)] 25)).heap[w.heap.size]? = some (.cells #[.int .u64 (word (f) 0), .int .u64 (word (f) 1), .int .u64 (word (f) 2), .int .u64 (word (f) 3), .int .u64 (word (g) 0), .int .u64 (word (g) 1), .int .u64 (word (g) 2), .int .u64 (word (g) 3)] 25 (0, 0)) := heap_alloc_new w _
  rw [cell_of_row _ _ _ _ _ _ h]
  match i, hi, j, hj with
  | 0, _, 0, _ | 0, _, 1, _ | 0, _, 2, _ | 0, _, 3, _ | 1, _, 0, _ | 1, _, 1, _ | 1, _, 2, _ | 1, _, 3, _ => rfl
/-- what the loop over a class's items comes to, from a place on -/
def Rest (s : ByteArray) (at' : Nat) (acc : Nat → Bool) (n : Nat) (r : (Nat → Bool) × Nat × Bool) : Prop := s.size < n + at' ∧ r = ((rdItems n (s.data.toList.drop at') acc).1, at' + (rdItems n (s.data.toList.drop at') acc).2.1, (rdItems n (s.data.toList.drop at') acc).2.2)
theorem rest_step {s : ByteArray} {p : Nat} {acc : Nat → Bool} {n : Nat} {r : (Nat → Bool) × Nat × Bool} (hp : p ≤ s.size) (h : Rest s p acc n r) :
    ∃ q m o, rdItem (s.data.toList.drop p) = (q, m, o) ∧ p + m ≤ s.size ∧
      (o = false → r = (fNone, p + m, false)) ∧ (o = true → 1 ≤ m ∧ (stands (s.data.toList.drop (p + m)) 93 = true → r = (fAny [acc, q], p + m, true)) ∧ (stands (s.data.toList.drop (p + m)) 93 = false → Rest s (p + m) (fAny [acc, q]) (n - 1) r)) := by
  obtain ⟨h0, h1⟩ := h
  obtain ⟨k, rfl⟩ : ∃ k, n = k + 1 := ⟨n - 1, by omega⟩
  obtain ⟨⟨q, m, o⟩, hA⟩ : ∃ A, A = rdItem (s.data.toList.drop p) := ⟨_, rfl⟩
  have hf := rdItem_fit (s.data.toList.drop p)
  simp only [rdItems, List.drop_drop] at h1
  rw [← hA] at h1 hf
  have hl : (s.data.toList.drop p).length = s.size - p := by simp
  simp only at h1 hf
  refine ⟨q, m, o, hA.symm, by omega, fun e => ?_, fun e => ?_⟩
  · subst e
    simpa using h1
  · subst e
    simp only [Bool.true_eq_false, if_false] at h1
    refine ⟨(hf.2 rfl).1, fun e => ?_, fun e => ?_⟩
    · rw [if_pos e] at h1
      exact h1
    · rw [if_neg (by rw [e]; simp)] at h1
      have := (hf.2 rfl).1
      refine ⟨by omega, ?_⟩
      rw [h1]
      simp [Nat.add_assoc]
/-- what a class that was read is told as -/
def RetCl (c : Bool) (r : (Nat → Bool) × Nat × Bool) (e : Ending) : Prop := ∃ g, e = .returned (.tuple #[(.agg #[.int .u64 (word (g) 0), .int .u64 (word (g) 1), .int .u64 (word (g) 2), .int .u64 (word (g) 3)]), .int .i64 ((if r.2.2 = true then r.2.1 + 1 else r.2.1 : Nat) : Int), .bool r.2.2]) ∧ (r.2.2 = true → g = if c = true then fNot r.1 else r.1)
theorem retCl_yes {c : Bool} {f g : Nat → Bool} {p : Nat} {r : (Nat → Bool) × Nat × Bool} (h : r = (f, p, true)) (hg : g = if c = true then fNot f else f) : RetCl c r (.returned (.tuple #[(.agg #[.int .u64 (word (g) 0), .int .u64 (word (g) 1), .int .u64 (word (g) 2), .int .u64 (word (g) 3)]), .int .i64 ((p : Int) + 1), .bool true])) := by
  subst h
  exact ⟨g, rfl, fun _ => hg⟩
theorem retCl_no {c : Bool} {f g : Nat → Bool} {p : Nat} {r : (Nat → Bool) × Nat × Bool} (h : r = (f, p, false)) : RetCl c r (.returned (.tuple #[(.agg #[.int .u64 (word (g) 0), .int .u64 (word (g) 1), .int .u64 (word (g) 2), .int .u64 (word (g) 3)]), .int .i64 (p : Int), .bool false])) := by
  subst h
  exact ⟨g, rfl, fun h => by cases h⟩
set_option maxHeartbeats 4000000 in
set_option maxRecDepth 100000 in
theorem class_core (s : ByteArray) (k : Nat) (w : World) (hk : k ≤ s.size) (hs : s.size ≤ 1000000000) (c : Bool) (hc : c = stands (s.data.toList.drop k) 94) (x : Nat) (hx : x = if c = true then k + 1 else k) (n : Nat) (r : (Nat → Bool) × Nat × Bool) (hr : Rest s x fNone n r) :
    Calls Tryd.prog 74 #[.string s, .int .i64 k] w fun e w' => RetCl c r e ∧ Below w.heap.size w w' := by
  have hS := stands_calls s k 94
  rw [show (((94 : UInt8).toNat : Nat) : Int) = 94 from rfl, ← hc] at hS
  have HS := hidden hS
  have hxs : x ≤ s.size := by
    cases c
    · rw [hx]
      exact hk
    · have : k < s.size := by
        rcases Nat.lt_or_ge k s.size with g | g
        · exact g
        · rw [List.drop_eq_nil_of_le (by simpa using g)] at hc
          exact absurd hc (by simp [stands])
      rw [hx]
      simp only [if_true]
      omega
  have HR := hidden hr
  have HX := hidden hx
  clear hS hc hr
  have hS2 := fun p => stands_calls s p 93
  simp only [show (((93 : UInt8).toNat : Nat) : Int) = 93 from rfl] at hS2
  have HS2 := hidden hS2
  clear hS2 hx
  cases c
  case false =>
    have hF : Hid ((x : Int) = (k : Int)) := hidden (by have := HX.out; simp at this; omega)
    go_enter Tryd.func74, Tryd.ntmps74
    go_wp2_with fail
    refine (HS.out _).mono ?_
    rintro e w1 ⟨rfl, rfl⟩
    go_wp2
    go_loopw [1] (fun a wr => ∃ (p : Nat) (acc : Nat → Bool) (m : Nat), a = .int .i64 p ∧ x ≤ p ∧ p ≤ s.size ∧ Hid ((p = x ∨ stands (s.data.toList.drop p) 93 = false) → Rest s p acc m r) ∧ Hid (p ≠ x → stands (s.data.toList.drop p) 93 = true → r = (acc, p, true)) ∧ SetAt wr w.heap.size fNone ∧ SetAt wr (w.heap.size + 1) acc ∧ Below w.heap.size w wr) (fun a _ => s.size - (intOf a).toNat)
    case atStart =>
      refine ⟨x, fNone, n, by rw [hF.out], Nat.le_refl _, hxs, hidden fun _ => HR.out, hidden fun h => absurd rfl h, (new2 w).1, (new2 w).2, by go_grown⟩
    case round =>
      obtain ⟨p, acc, m, rfl, hxp, hps, h1, h2, hA, hS, hb⟩ := hrel
      have HB := hidden hb
      have HA := hidden hA
      have HT := hidden hS
      have l1 := hS.lt
      clear hb hA hS
      have hcase : Hid (p = x ∨ p ≠ x ∧ stands (s.data.toList.drop p) 93 = false) ∨ (p ≠ x ∧ stands (s.data.toList.drop p) 93 = true) := by
        by_cases h : p = x
        · exact .inl (hidden (.inl h))
        · cases hz : stands (s.data.toList.drop p) 93
          · exact .inl (hidden (.inr ⟨h, rfl⟩))
          · exact .inr ⟨h, rfl⟩
      rcases hcase with hc | ⟨hne, hst⟩
      · have hrest : Rest s p acc m r := h1.out (by
          rcases hc.out with h | h
          · exact .inl h
          · exact .inr h.2)
        obtain ⟨q, g, o, hi, hps', he, ho⟩ := rest_step hps hrest
        have HI := hidden (fun w => item_calls s p w hps hs (q, g, o) hi.symm)
        have HE := hidden he
        have HO := hidden ho
        obtain ⟨p', hp'⟩ : ∃ p', p' = p + g := ⟨_, rfl⟩
        have hpg := hp'
        have hst := HS2.out p
        simp only [← hp'] at HI HE HO hps'
        clear h1 h2 hrest hi he ho hp'
        have HG := hidden hpg
        clear hpg
        rcases hc.out with hpx | ⟨hpx, hz⟩
        case' inl =>
          have hq : ((p : Int) == x) = true := by simp; omega
          rw [hF.out] at hq
          clear hst hpx
        case' inr =>
          have hq : ((p : Int) == x) = false := by simp; omega
          rw [hF.out] at hq
          rw [hz] at hst
          have HST := hidden hst
          clear hst hz hpx
        all_goals
          clear hc
          obtain ⟨c0, c1, c2, c3, f0, f1, f2, f3⟩ := HT.out.facts
          obtain ⟨d0, d1, d2, d3, g0, g1, g2, g3⟩ := HA.out.facts
          try (go_wp2_with fail
               refine (HST.out _).mono ?_
               rintro e w2 ⟨rfl, rfl⟩)
          go_wp2_with fail
          refine (HI.out _).mono ?_
          rintro e w3 ⟨rfl, hb3⟩
          have HA3 := hidden (HA.out.below hb3)
          have HT3 := hidden (HT.out.below hb3)
          have HB3 := hidden (below_after HB.out hb3)
          clear c0 c1 c2 c3 f0 f1 f2 f3 d0 d1 d2 d3 g0 g1 g2 g3
          cases o
          · have hres := hidden (HE.out rfl)
            obtain ⟨d0, d1, d2, d3, g0, g1, g2, g3⟩ := (HA3.out.alloc (.cells #[.int .u64 (word (q) 0), .int .u64 (word (q) 1), .int .u64 (word (q) 2), .int .u64 (word (q) 3)] 25)).facts
            clear hb3 HE HO
            go_wp2
            refine ret_set3 Tryd.results74 rfl rfl rfl rfl (HA3.out.alloc _).storedNone (fun n hn => rfl) ⟨retCl_no hres.out, below_cells (HB3.out.alloc (by have := HB3.out.size; omega) _) _ (by omega) _ _ _ _⟩
          · obtain ⟨hg1, hy, hn⟩ := HO.out rfl
            have HY := hidden hy
            have HN := hidden hn
            have hl3 := HT3.out.lt
            obtain ⟨c0, c1, c2, c3, f0, f1, f2, f3⟩ := (HT3.out.alloc (.cells #[.int .u64 (word (q) 0), .int .u64 (word (q) 1), .int .u64 (word (q) 2), .int .u64 (word (q) 3)] 25)).facts
            obtain ⟨d0, d1, d2, d3, g0, g1, g2, g3⟩ := (SetAt.new w3 q).facts
            clear hb3 HE HO hy hn
            go_wp2_with fail
            refine (all_calls _ 2 2 [acc, q] _ (by decide) (sets_two (w := w3.alloc (.cells #[.int .u64 (word (q) 0), .int .u64 (word (q) 1), .int .u64 (word (q) 2), .int .u64 (word (q) 3)] 25)) acc q _ (by simp))).mono ?_
            rintro e w4 ⟨rfl, hb4⟩
            have HA4 := hidden (((HA3.out.alloc _).alloc _).below hb4)
            have HT4 := hidden (((HT3.out.alloc _).alloc _).below hb4)
            have HB4 := hidden (below_after ((HB3.out.alloc (by have := HB3.out.size; omega) _).alloc (by have := HB3.out.size; simp; omega) _) hb4)
            clear c0 c1 c2 c3 f0 f1 f2 f3 d0 d1 d2 d3 g0 g1 g2 g3 hb4
            obtain ⟨c0, c1, c2, c3, f0, f1, f2, f3⟩ := HT4.out.facts
            go_wp2
            go_roundw
            case rel =>
              refine ⟨p', fAny [acc, q], m - 1, by go_num, by have := HG.out; omega, by omega, hidden fun h => ?_, hidden fun _ h => HY.out h, set_other HA4.out (by omega) _ _ _ _, HT4.out.stored, below_cells HB4.out _ (by omega) _ _ _ _⟩
              rcases h with h | h
              · exact absurd h (by have := HG.out; omega)
              · exact HN.out h
            case measure => have := HG.out; simp [intOf]; omega
      · have hres := hidden (h2.out hne hst)
        have hq : ((p : Int) == x) = false := by simp; omega
        rw [hF.out] at hq
        have hst' := HS2.out p
        rw [hst] at hst'
        have HST := hidden hst'
        clear h1 h2 hst hst' hne
        obtain ⟨c0, c1, c2, c3, f0, f1, f2, f3⟩ := HT.out.facts
        obtain ⟨d0, d1, d2, d3, g0, g1, g2, g3⟩ := HA.out.facts
        go_wp2_with fail
        refine (HST.out _).mono ?_
        rintro e w2 ⟨rfl, rfl⟩
        go_wp2
        refine ret_set3 Tryd.results74 rfl rfl rfl rfl HA.out.stored (fun n hn => rfl) ⟨retCl_yes hres.out rfl, below_cells HB.out _ (by omega) _ _ _ _⟩
  case true =>
    have hF : Hid ((x : Int) = (k : Int) + 1) := hidden (by have := HX.out; simp at this; omega)
    go_enter Tryd.func74, Tryd.ntmps74
    go_wp2_with fail
    refine (HS.out _).mono ?_
    rintro e w1 ⟨rfl, rfl⟩
    go_wp2
    go_loopw [1] (fun a wr => ∃ (p : Nat) (acc : Nat → Bool) (m : Nat), a = .int .i64 p ∧ x ≤ p ∧ p ≤ s.size ∧ Hid ((p = x ∨ stands (s.data.toList.drop p) 93 = false) → Rest s p acc m r) ∧ Hid (p ≠ x → stands (s.data.toList.drop p) 93 = true → r = (acc, p, true)) ∧ SetAt wr w.heap.size fNone ∧ SetAt wr (w.heap.size + 1) acc ∧ Below w.heap.size w wr) (fun a _ => s.size - (intOf a).toNat)
    case atStart =>
      refine ⟨x, fNone, n, by rw [hF.out], Nat.le_refl _, hxs, hidden fun _ => HR.out, hidden fun h => absurd rfl h, (new2 w).1, (new2 w).2, by go_grown⟩
    case round =>
      obtain ⟨p, acc, m, rfl, hxp, hps, h1, h2, hA, hS, hb⟩ := hrel
      have HB := hidden hb
      have HA := hidden hA
      have HT := hidden hS
      have l1 := hS.lt
      clear hb hA hS
      have hcase : Hid (p = x ∨ p ≠ x ∧ stands (s.data.toList.drop p) 93 = false) ∨ (p ≠ x ∧ stands (s.data.toList.drop p) 93 = true) := by
        by_cases h : p = x
        · exact .inl (hidden (.inl h))
        · cases hz : stands (s.data.toList.drop p) 93
          · exact .inl (hidden (.inr ⟨h, rfl⟩))
          · exact .inr ⟨h, rfl⟩
      rcases hcase with hc | ⟨hne, hst⟩
      · have hrest : Rest s p acc m r := h1.out (by
          rcases hc.out with h | h
          · exact .inl h
          · exact .inr h.2)
        obtain ⟨q, g, o, hi, hps', he, ho⟩ := rest_step hps hrest
        have HI := hidden (fun w => item_calls s p w hps hs (q, g, o) hi.symm)
        have HE := hidden he
        have HO := hidden ho
        obtain ⟨p', hp'⟩ : ∃ p', p' = p + g := ⟨_, rfl⟩
        have hpg := hp'
        have hst := HS2.out p
        simp only [← hp'] at HI HE HO hps'
        clear h1 h2 hrest hi he ho hp'
        have HG := hidden hpg
        clear hpg
        rcases hc.out with hpx | ⟨hpx, hz⟩
        case' inl =>
          have hq : ((p : Int) == x) = true := by simp; omega
          rw [hF.out] at hq
          clear hst hpx
        case' inr =>
          have hq : ((p : Int) == x) = false := by simp; omega
          rw [hF.out] at hq
          rw [hz] at hst
          have HST := hidden hst
          clear hst hz hpx
        all_goals
          clear hc
          obtain ⟨c0, c1, c2, c3, f0, f1, f2, f3⟩ := HT.out.facts
          obtain ⟨d0, d1, d2, d3, g0, g1, g2, g3⟩ := HA.out.facts
          try (go_wp2_with fail
               refine (HST.out _).mono ?_
               rintro e w2 ⟨rfl, rfl⟩)
          go_wp2_with fail
          refine (HI.out _).mono ?_
          rintro e w3 ⟨rfl, hb3⟩
          have HA3 := hidden (HA.out.below hb3)
          have HT3 := hidden (HT.out.below hb3)
          have HB3 := hidden (below_after HB.out hb3)
          clear c0 c1 c2 c3 f0 f1 f2 f3 d0 d1 d2 d3 g0 g1 g2 g3
          cases o
          · have hres := hidden (HE.out rfl)
            obtain ⟨d0, d1, d2, d3, g0, g1, g2, g3⟩ := (HA3.out.alloc (.cells #[.int .u64 (word (q) 0), .int .u64 (word (q) 1), .int .u64 (word (q) 2), .int .u64 (word (q) 3)] 25)).facts
            clear hb3 HE HO
            go_wp2
            refine ret_set3 Tryd.results74 rfl rfl rfl rfl (HA3.out.alloc _).storedNone (fun n hn => rfl) ⟨retCl_no hres.out, below_cells (HB3.out.alloc (by have := HB3.out.size; omega) _) _ (by omega) _ _ _ _⟩
          · obtain ⟨hg1, hy, hn⟩ := HO.out rfl
            have HY := hidden hy
            have HN := hidden hn
            have hl3 := HT3.out.lt
            obtain ⟨c0, c1, c2, c3, f0, f1, f2, f3⟩ := (HT3.out.alloc (.cells #[.int .u64 (word (q) 0), .int .u64 (word (q) 1), .int .u64 (word (q) 2), .int .u64 (word (q) 3)] 25)).facts
            obtain ⟨d0, d1, d2, d3, g0, g1, g2, g3⟩ := (SetAt.new w3 q).facts
            clear hb3 HE HO hy hn
            go_wp2_with fail
            refine (all_calls _ 2 2 [acc, q] _ (by decide) (sets_two (w := w3.alloc (.cells #[.int .u64 (word (q) 0), .int .u64 (word (q) 1), .int .u64 (word (q) 2), .int .u64 (word (q) 3)] 25)) acc q _ (by simp))).mono ?_
            rintro e w4 ⟨rfl, hb4⟩
            have HA4 := hidden (((HA3.out.alloc _).alloc _).below hb4)
            have HT4 := hidden (((HT3.out.alloc _).alloc _).below hb4)
            have HB4 := hidden (below_after ((HB3.out.alloc (by have := HB3.out.size; omega) _).alloc (by have := HB3.out.size; simp; omega) _) hb4)
            clear c0 c1 c2 c3 f0 f1 f2 f3 d0 d1 d2 d3 g0 g1 g2 g3 hb4
            obtain ⟨c0, c1, c2, c3, f0, f1, f2, f3⟩ := HT4.out.facts
            go_wp2
            go_roundw
            case rel =>
              refine ⟨p', fAny [acc, q], m - 1, by go_num, by have := HG.out; omega, by omega, hidden fun h => ?_, hidden fun _ h => HY.out h, set_other HA4.out (by omega) _ _ _ _, HT4.out.stored, below_cells HB4.out _ (by omega) _ _ _ _⟩
              rcases h with h | h
              · exact absurd h (by have := HG.out; omega)
              · exact HN.out h
            case measure => have := HG.out; simp [intOf]; omega
      · have hres := hidden (h2.out hne hst)
        have hq : ((p : Int) == x) = false := by simp; omega
        rw [hF.out] at hq
        have hst' := HS2.out p
        rw [hst] at hst'
        have HST := hidden hst'
        clear h1 h2 hst hst' hne
        obtain ⟨c0, c1, c2, c3, f0, f1, f2, f3⟩ := HT.out.facts
        obtain ⟨d0, d1, d2, d3, g0, g1, g2, g3⟩ := HA.out.facts
        go_wp2_with fail
        refine (HST.out _).mono ?_
        rintro e w2 ⟨rfl, rfl⟩
        go_wp2_with fail
        refine (not_calls acc _).mono ?_
        rintro e w3 ⟨rfl, hb3⟩
        have HA3 := hidden (HA.out.below hb3)
        have HT3 := hidden (HT.out.below hb3)
        have HB3 := hidden (below_after HB.out hb3)
        clear c0 c1 c2 c3 f0 f1 f2 f3 d0 d1 d2 d3 g0 g1 g2 g3
        obtain ⟨c0, c1, c2, c3, f0, f1, f2, f3⟩ := HT3.out.facts
        obtain ⟨d0, d1, d2, d3, g0, g1, g2, g3⟩ := HA3.out.facts
        clear hb3
        go_wp2
        refine ret_set3 Tryd.results74 rfl rfl rfl rfl (set_other HA3.out (by omega) _ _ _ _).stored (fun n hn => rfl) ⟨retCl_yes hres.out rfl, below_cells (below_cells HB3.out _ (by omega) _ _ _ _) _ (by omega) _ _ _ _⟩
end Go.Proofs.YthiiinbkkjacbaaDoor
