/- Contracts of what reads one Char: the reference's char and begins; esc's goesOn, readHexed, readName, readEscape, read, opens. -/
import Derived.Test.YtkonmgfgnppmlaaDoorEscChar
namespace Go.Proofs.YtkonmgfgnppmlaaDoor
open Go.RowKit

theorem ret_iii {k k1 k2 : IntKind} {a b c a' b' c' : Int} (h : a = a') (h1 : b = b') (h2 : c = c') : Ending.returned (.tuple #[.int k a, .int k1 b, .int k2 c]) = .returned (.tuple #[.int k a', .int k1 b', .int k2 c']) := by rw [h, h1, h2]
theorem prefix_iff (t C : ByteArray) : C.data.toList <+: t.data.toList ↔ C.size ≤ t.size ∧ t.extract 0 C.size = C := by
  have h0 : C.data.toList.length = C.size := by simp
  have h1 : t.data.toList.length = t.size := by simp
  rw [List.prefix_iff_eq_take]
  constructor
  · intro h
    refine ⟨?_, ?_⟩
    · rw [← h0, ← h1, h, List.length_take]
      omega
    · apply Go.WideShapes.bytes_inj
      rw [h0] at h
      rw [h]
      simp
  · rintro ⟨_, h⟩
    conv => lhs; rw [← h]
    rw [h0]
    simp

set_option maxHeartbeats 2000000 in
set_option maxRecDepth 100000 in
theorem rone_calls (t : ByteArray) (w : World) (h34 : t.data.toList.head? ≠ some 34) :
    Calls Tryd.prog 24 #[.string t] w fun e w' => e = .returned (.tuple #[.int .u8 (rdV t.data.toList).1, .int .i64 (rdV t.data.toList).2.1]) ∧ Below w.heap.size w w' := by
  have H34 := hidden h34
  clear h34
  go_enter Tryd.func24, Tryd.ntmps24
  go_wp2
  go_loopw [4] (fun i wr => ∃ k : Nat, k ≤ 256 ∧ i = .int .i64 k ∧ (∀ j : Nat, j < k → ¬ chrL (j : Int) <+: t.data.toList) ∧ Below w.heap.size w wr) (fun i _ => 256 - (intOf i).toNat)
  case atStart => exact ⟨0, by omega, rfl, fun _ h => absurd h (by omega), Below.refl _ _⟩
  case round =>
    obtain ⟨k, hk, rfl, hj, hb⟩ := hrel
    have HJ := hidden hj
    have HB := hidden hb
    clear hj hb
    by_cases hlt : k < 256
    · have hc := hidden (fun W => rchar_calls (k : Int) W (by omega) (by omega))
      have hp := hidden (prefix_iff t (chrB (k : Int)))
      have hz := chrB_size (k : Int) (by omega) (by omega)
      have HD := hidden (chrB_data (k : Int))
      generalize chrB (k : Int) = C at *
      by_cases hl : C.size ≤ t.size
      · by_cases he : t.extract 0 C.size = C
        · have hR := hidden (rd_some (l := t.data.toList) k hlt (by rw [← HD.out]; exact hp.out.2 ⟨hl, he⟩))
          have hq : ((t.extract 0 C.size).toList == C.toList) = true := by rw [he]; exact text_same _
          have hC := hidden (show (C.size : Int) = ((chrL (k : Int)).length : Int) by rw [← HD.out]; simp)
          clear he
          go_wp2_with fail
          refine (hc.out _).mono ?_
          rintro e w1 ⟨rfl, hb1⟩
          go_wp2
          go_ret2
          exact ⟨ret_ii (by rw [hR.out]) (by rw [hR.out]; exact hC.out), below_after HB.out hb1⟩
        · have hq := text_other he
          have hN := hidden (show ¬ chrL (k : Int) <+: t.data.toList by rw [← HD.out]; exact fun h => he (hp.out.1 h).2)
          clear he
          go_wp2_with fail
          refine (hc.out _).mono ?_
          rintro e w1 ⟨rfl, hb1⟩
          go_wp2
          go_roundw
          case rel =>
            refine ⟨k + 1, by omega, by go_num, fun j hj => ?_, below_after HB.out hb1⟩
            by_cases e : j = k
            · subst e; exact hN.out
            · exact HJ.out j (by omega)
          case measure => simp [intOf]; omega
      · have hd : decide (C.size ≤ t.size) = false := by simpa using hl
        have hd2 : decide ((C.size : Int) ≤ t.size) = false := by simp; omega
        have hN := hidden (show ¬ chrL (k : Int) <+: t.data.toList by rw [← HD.out]; exact fun h => hl (hp.out.1 h).1)
        go_wp2_with fail
        refine (hc.out _).mono ?_
        rintro e w1 ⟨rfl, hb1⟩
        go_wp2
        go_roundw
        case rel =>
          refine ⟨k + 1, by omega, by go_num, fun j hj => ?_, below_after HB.out hb1⟩
          by_cases e : j = k
          · subst e; exact hN.out
          · exact HJ.out j (by omega)
        case measure => simp [intOf]; omega
    · have hR := hidden (rd_none H34.out (fun n hn => HJ.out n (by omega)))
      go_wp2
      go_ret2
      exact ⟨ret_ii hR.out.1.symm hR.out.2.1.symm, HB.out⟩

theorem begins_iff (t C : ByteArray) : (t.data.toList.length < C.data.toList.length ∧ t.data.toList <+: C.data.toList) ↔ t.size < C.size ∧ C.extract 0 t.size = t := by
  have h0 : C.data.toList.length = C.size := by simp
  have h1 : t.data.toList.length = t.size := by simp
  rw [prefix_iff, h0, h1]
  constructor
  · rintro ⟨h, _, e⟩; exact ⟨h, e⟩
  · rintro ⟨h, e⟩; exact ⟨h, by omega, e⟩

set_option maxHeartbeats 2000000 in
set_option maxRecDepth 100000 in
theorem rbegins_calls (t : ByteArray) (w : World) (h0 : t.data.toList ≠ []) :
    Calls Tryd.prog 25 #[.string t] w fun e w' => e = .returned (.bool (decide ((rdV t.data.toList).2.2 = 4))) ∧ Below w.heap.size w w' := by
  have H0 := hidden h0
  clear h0
  go_enter Tryd.func25, Tryd.ntmps25
  go_wp2
  go_loopw [3] (fun i wr => ∃ k : Nat, k ≤ 256 ∧ i = .int .i64 k ∧ (∀ j : Nat, j < k → ¬ (t.data.toList.length < (chrL (j : Int)).length ∧ t.data.toList <+: chrL (j : Int))) ∧ Below w.heap.size w wr) (fun i _ => 256 - (intOf i).toNat)
  case atStart => exact ⟨0, by omega, rfl, fun _ h => absurd h (by omega), Below.refl _ _⟩
  case round =>
    obtain ⟨k, hk, rfl, hj, hb⟩ := hrel
    have HJ := hidden hj
    have HB := hidden hb
    clear hj hb
    by_cases hlt : k < 256
    · have hc := hidden (fun W => rchar_calls (k : Int) W (by omega) (by omega))
      have hp := hidden (begins_iff t (chrB (k : Int)))
      have hz := chrB_size (k : Int) (by omega) (by omega)
      have HD := hidden (chrB_data (k : Int))
      generalize chrB (k : Int) = C at *
      by_cases hl : t.size < C.size
      · by_cases he : C.extract 0 t.size = t
        · have hR := hidden (show rdV t.data.toList = (0, 0, 4) by
            have := hp.out.2 ⟨hl, he⟩
            rw [HD.out] at this
            exact rd_short H0.out k hlt this.1 this.2)
          have hq : ((C.extract 0 t.size).toList == t.toList) = true := by rw [he]; exact text_same _
          clear he
          go_wp2_with fail
          refine (hc.out _).mono ?_
          rintro e w1 ⟨rfl, hb1⟩
          go_wp2
          go_ret
          exact ⟨ret_b (by rw [hR.out]; rfl), below_after HB.out hb1⟩
        · have hq := text_other he
          have hN := hidden (show ¬ (t.data.toList.length < (chrL (k : Int)).length ∧ t.data.toList <+: chrL (k : Int)) by rw [← HD.out]; exact fun h => he (hp.out.1 h).2)
          clear he
          go_wp2_with fail
          refine (hc.out _).mono ?_
          rintro e w1 ⟨rfl, hb1⟩
          go_wp2
          go_roundw
          case rel =>
            refine ⟨k + 1, by omega, by go_num, fun j hj => ?_, below_after HB.out hb1⟩
            by_cases e : j = k
            · subst e; exact hN.out
            · exact HJ.out j (by omega)
          case measure => simp [intOf]; omega
      · have hd : decide (t.size < C.size) = false := by simpa using hl
        have hd2 : decide ((t.size : Int) < C.size) = false := by simp; omega
        have hN := hidden (show ¬ (t.data.toList.length < (chrL (k : Int)).length ∧ t.data.toList <+: chrL (k : Int)) by rw [← HD.out]; exact fun h => hl (hp.out.1 h).1)
        go_wp2_with fail
        refine (hc.out _).mono ?_
        rintro e w1 ⟨rfl, hb1⟩
        go_wp2
        go_roundw
        case rel =>
          refine ⟨k + 1, by omega, by go_num, fun j hj => ?_, below_after HB.out hb1⟩
          by_cases e : j = k
          · subst e; exact hN.out
          · exact HJ.out j (by omega)
        case measure => simp [intOf]; omega
    · have hR := hidden (show ¬ (rdV t.data.toList).2.2 = 4 from fun h => by
        obtain ⟨n, hn, h1, h2⟩ := rd_long h
        exact HJ.out n (by omega) ⟨h1, h2⟩)
      go_wp2
      go_ret
      exact ⟨ret_b (by symm; simpa using hR.out), HB.out⟩

theorem hasprefix_calls (C t : ByteArray) (w : World) :
    Calls Tryd.prog 35 #[.string C, .string t] w fun e w' => e = .returned (.bool (t.data.toList.isPrefixOf C.data.toList)) ∧ w = w' := by
  have hin : Calls Tryd.prog 37 #[.string C, .string t] w fun e w' => e = .returned (.bool (t.data.toList.isPrefixOf C.data.toList)) ∧ w = w' := by
    have hp := prefix_iff C t
    by_cases hl : t.size ≤ C.size
    · by_cases he : C.extract 0 t.size = t
      · have hq : ((C.extract 0 t.size).toList == t.toList) = true := by rw [he]; exact text_same _
        have hR := hidden (show t.data.toList.isPrefixOf C.data.toList = true from List.isPrefixOf_iff_prefix.2 (hp.2 ⟨hl, he⟩))
        clear hp he
        go_enter Tryd.func37, Tryd.ntmps37
        go_wp2
        go_ret
        exact ⟨ret_b hR.out.symm, rfl⟩
      · have hq := text_other he
        have hR := hidden (show t.data.toList.isPrefixOf C.data.toList = false from Bool.eq_false_iff.2 fun h => he (hp.1 (List.isPrefixOf_iff_prefix.1 h)).2)
        clear hp he
        go_enter Tryd.func37, Tryd.ntmps37
        go_wp2
        go_ret
        exact ⟨ret_b hR.out.symm, rfl⟩
    · have hR := hidden (show t.data.toList.isPrefixOf C.data.toList = false from Bool.eq_false_iff.2 fun h => hl (hp.1 (List.isPrefixOf_iff_prefix.1 h)).1)
      have hd : decide (t.size ≤ C.size) = false := by simpa using hl
      have hd2 : decide ((t.size : Int) ≤ C.size) = false := by simp; omega
      clear hp
      go_enter Tryd.func37, Tryd.ntmps37
      go_wp2
      go_ret
      exact ⟨ret_b hR.out.symm, rfl⟩
  generalize t.data.toList.isPrefixOf C.data.toList = p at hin ⊢
  have H := hidden hin
  clear hin
  go_enter Tryd.func35, Tryd.ntmps35
  go_wp2_with fail
  refine H.out.mono ?_
  rintro e w' ⟨rfl, rfl⟩
  go_wp2
  go_ret
  exact ⟨rfl, rfl⟩

theorem goes_none {l : List UInt8} (h : ∀ j : Nat, j < 256 → ¬ l.isPrefixOf (chrL (j : Int)) = true) : goesB l = false := by
  rw [Bool.eq_false_iff]
  intro e
  obtain ⟨n, hn, hp⟩ := List.any_eq_true.1 e
  exact h n (List.mem_range.1 hn) hp
theorem goes_some {l : List UInt8} (k : Nat) (hk : k < 256) (h : l.isPrefixOf (chrL (k : Int)) = true) : goesB l = true :=
  List.any_eq_true.2 ⟨k, List.mem_range.2 hk, h⟩
set_option maxHeartbeats 2000000 in
set_option maxRecDepth 100000 in
theorem goes_calls (t : ByteArray) (w : World) (ht : Tab w) :
    Calls Tryd.prog 32 #[.string t] w fun e w' => e = .returned (.bool (goesB t.data.toList)) ∧ Below w.heap.size w w' := by
  have HT := hidden ht
  clear ht
  go_enter Tryd.func32, Tryd.ntmps32
  go_wp2
  go_loopw [4] (fun i wr => ∃ k : Nat, k ≤ 256 ∧ i = .int .i64 k ∧ (∀ j : Nat, j < k → ¬ t.data.toList.isPrefixOf (chrL (j : Int)) = true) ∧ Below w.heap.size w wr) (fun i _ => 256 - (intOf i).toNat)
  case atStart => exact ⟨0, by omega, rfl, fun _ h => absurd h (by omega), Below.refl _ _⟩
  case round =>
    obtain ⟨k, hk, rfl, hj, hb⟩ := hrel
    have HJ := hidden hj
    have HB := hidden hb
    clear hj hb
    by_cases hlt : k < 256
    · have hc := hidden (fun W h => char_calls (k : Int) W h (by omega) (by omega))
      have hp := hidden (fun W => hasprefix_calls (chrB (k : Int)) t W)
      have HD := hidden (chrB_data (k : Int))
      generalize chrB (k : Int) = C at *
      by_cases hq : t.data.toList.isPrefixOf C.data.toList = true
      · have hR := hidden (goes_some (l := t.data.toList) k hlt (by rw [← HD.out]; exact hq))
        rw [hq] at hp
        clear hq
        go_wp2_with fail
        refine (hc.out _ (HT.out.below HB.out)).mono ?_
        rintro e w1 ⟨rfl, hb1⟩
        go_wp2_with fail
        refine (hp.out _).mono ?_
        rintro e w' ⟨rfl, rfl⟩
        go_wp2
        go_ret
        exact ⟨ret_b hR.out.symm, below_after HB.out hb1⟩
      · have hN := hidden (show ¬ t.data.toList.isPrefixOf (chrL (k : Int)) = true by rw [← HD.out]; exact hq)
        have hq : t.data.toList.isPrefixOf C.data.toList = false := by simpa using hq
        rw [hq] at hp
        clear hq
        go_wp2_with fail
        refine (hc.out _ (HT.out.below HB.out)).mono ?_
        rintro e w1 ⟨rfl, hb1⟩
        go_wp2_with fail
        refine (hp.out _).mono ?_
        rintro e w' ⟨rfl, rfl⟩
        go_wp2
        go_roundw
        case rel =>
          refine ⟨k + 1, by omega, by go_num, fun j hj => ?_, below_after HB.out hb1⟩
          by_cases e : j = k
          · subst e; exact hN.out
          · exact HJ.out j (by omega)
        case measure => simp [intOf]; omega
    · have hR := hidden (goes_none (l := t.data.toList) (fun n hn => HJ.out n (by omega)))
      go_wp2
      go_ret
      exact ⟨ret_b hR.out.symm, HB.out⟩

theorem unhex_two {t : ByteArray} {a b : UInt8} (h : t.data.toList = [a, b]) : unhexV t = if 0 ≤ digOf a ∧ 0 ≤ digOf b then (digOf a * 16 + digOf b, true) else (0, false) := by
  unfold unhexV
  rw [h]
set_option maxHeartbeats 1000000 in
theorem hexed_calls (t : ByteArray) (a b : UInt8) (w : World) (ht : Tab w) (hl : t.data.toList = [92, 120, a, b]) :
    Calls Tryd.prog 31 #[.string t] w fun e w' => e = .returned (.tuple #[.int .u8 (hexV [a, b]).1, .int .i64 (hexV [a, b]).2.1, .int .i64 (hexV [a, b]).2.2]) ∧ Below w.heap.size w w' := by
  have hsz : t.size = 4 := by
    have : t.data.toList.length = t.size := by simp
    rw [← this, hl]
    rfl
  have hx : (t.extract 2 4).data.toList = [a, b] := by simp [hl]
  have hu := unhex_two hx
  have HT := hidden ht
  clear ht
  have ha := (digOf_all a).1
  have hb := (digOf_all b).1
  by_cases hd : 0 ≤ digOf a ∧ 0 ≤ digOf b
  · rw [if_pos hd] at hu
    have HU := hidden (fun W => unhex_calls (t.extract 2 4) W)
    rw [hu] at HU
    have hc := hidden (fun W h => char_calls (digOf a * 16 + digOf b) W h (by omega) (by omega))
    have HL := hidden hl
    by_cases he : chrL (digOf a * 16 + digOf b) = [92, 120, a, b]
    · have hR := hidden (show hexV [a, b] = (digOf a * 16 + digOf b, 4, 0) by rw [hexV, if_pos ⟨hd.1, hd.2, he⟩])
      have hq : ((chrB (digOf a * 16 + digOf b)).toList == t.toList) = true := by
        rw [show chrB (digOf a * 16 + digOf b) = t from Go.WideShapes.bytes_inj (by rw [chrB_data, he, HL.out])]
        exact text_same _
      generalize hexV [a, b] = r at hR ⊢
      generalize digOf a * 16 + digOf b = v at *
      clear hl hx hu hd ha hb he
      go_enter Tryd.func31, Tryd.ntmps31
      go_wp2_with fail
      refine (HU.out _).mono ?_
      rintro e w' ⟨rfl, rfl⟩
      go_wp2_with fail
      refine (hc.out _ HT.out).mono ?_
      rintro e w1 ⟨rfl, hb1⟩
      go_wp2
      go_ret3
      exact ⟨by rw [hR.out]; rfl, hb1⟩
    · have hR := hidden (show hexV [a, b] = (0, 0, 3) by rw [hexV, if_neg (fun h => he h.2.2)])
      have hq : ((chrB (digOf a * 16 + digOf b)).toList == t.toList) = false := text_other fun e => he (by rw [← chrB_data, e, HL.out])
      generalize hexV [a, b] = r at hR ⊢
      generalize digOf a * 16 + digOf b = v at *
      clear hl hx hu hd ha hb he
      go_enter Tryd.func31, Tryd.ntmps31
      go_wp2_with fail
      refine (HU.out _).mono ?_
      rintro e w' ⟨rfl, rfl⟩
      go_wp2_with fail
      refine (hc.out _ HT.out).mono ?_
      rintro e w1 ⟨rfl, hb1⟩
      go_wp2
      go_ret3
      exact ⟨by rw [hR.out]; rfl, hb1⟩
  · rw [if_neg hd] at hu
    have HU := hidden (fun W => unhex_calls (t.extract 2 4) W)
    rw [hu] at HU
    have hR := hidden (show hexV [a, b] = (0, 0, 3) by rw [hexV, if_neg (fun h => hd ⟨h.1, h.2.1⟩)])
    generalize hexV [a, b] = r at hR ⊢
    clear hl hx hu hd ha hb
    go_enter Tryd.func31, Tryd.ntmps31
    go_wp2_with fail
    refine (HU.out _).mono ?_
    rintro e w' ⟨rfl, rfl⟩
    go_wp2
    go_ret3
    exact ⟨by rw [hR.out]; rfl, Below.refl _ _⟩

theorem name_all : ∀ c : Fin 256, namedV (UInt8.ofNat c.val) = if (nameW (c.val : Int)).2 = true then some (nameW (c.val : Int)).1 else none := by decide +kernel
theorem name_same (d : UInt8) : namedV d = if (nameW (d.toNat : Int)).2 = true then some (nameW (d.toNat : Int)).1 else none := by
  have := name_all ⟨d.toNat, d.toNat_lt⟩
  simpa using this
theorem readName_calls (d : UInt8) (w : World) (ht : Tab w) (r : Int × Int × Int) (hr : r = (match namedV d with | some v => (v, 2, 0) | none => (0, 0, 3))) :
    Calls Tryd.prog 30 #[.int .u8 (d.toNat : Int)] w fun e w' => e = .returned (.tuple #[.int .u8 r.1, .int .i64 r.2.1, .int .i64 r.2.2]) ∧ Below w.heap.size w w' := by
  have HN := hidden (named_calls (d.toNat : Int) w ht)
  by_cases hb : (nameW (d.toNat : Int)).2 = true
  · have hR := hidden (show r = ((nameW (d.toNat : Int)).1, 2, 0) by rw [hr, name_same, if_pos hb])
    rw [hb] at HN
    clear hb hr
    generalize (nameW (d.toNat : Int)).1 = v at *
    generalize (d.toNat : Int) = n at *
    go_enter Tryd.func30, Tryd.ntmps30
    go_wp2_with fail
    refine HN.out.mono ?_
    rintro e w1 ⟨rfl, hb1⟩
    go_wp2
    go_ret3
    exact ⟨by rw [hR.out]; rfl, hb1⟩
  · have hR := hidden (show r = (0, 0, 3) by rw [hr, name_same, if_neg hb])
    have hb : (nameW (d.toNat : Int)).2 = false := by simpa using hb
    rw [hb] at HN
    clear hb hr
    generalize (nameW (d.toNat : Int)).1 = v at *
    generalize (d.toNat : Int) = n at *
    go_enter Tryd.func30, Tryd.ntmps30
    go_wp2_with fail
    refine HN.out.mono ?_
    rintro e w1 ⟨rfl, hb1⟩
    go_wp2
    go_ret3
    exact ⟨by rw [hR.out]; rfl, hb1⟩

/-- a triple of numbers, handed back -/
def R3 (r : Int × Int × Int) : Ending := .returned (.tuple #[.int .u8 r.1, .int .i64 r.2.1, .int .i64 r.2.2])
theorem byte_of {t : ByteArray} {l : List UInt8} (h : t.data.toList = l) (i : Nat) (hi : i < t.size) (c : UInt8) (hc : l[i]? = some c) : (t[i]'hi) = c := by
  subst h
  have : t.data.toList[i]? = some (t[i]'hi) := by
    rw [List.getElem?_eq_getElem (by simpa using hi)]
    rfl
  rw [this] at hc
  exact Option.some.inj hc
theorem size_of {t : ByteArray} {l : List UInt8} (h : t.data.toList = l) : t.size = l.length := by
  subst h
  simp
theorem nameV_same (d : UInt8) (h : d ≠ 120) (r : List UInt8) : escV (d :: r) = (match namedV d with | some v => (v, 2, 0) | none => (0, 0, 3)) := by
  rw [escV, if_neg h]
  cases namedV d <;> rfl
set_option maxHeartbeats 1000000 in
theorem readEscape_calls (t : ByteArray) (l : List UInt8) (w : World) (ht : Tab w) (hl : t.data.toList = 92 :: l) :
    Calls Tryd.prog 28 #[.string t] w fun e w' => e = R3 (escV l) ∧ Below w.heap.size w w' := by
  have HT := hidden ht
  clear ht
  have hsz := size_of hl
  have HL := hidden hl
  match l with
  | [] =>
    have hg := hidden (fun W h => goes_calls t W h)
    have hz : t.size = 1 := hsz
    rw [hl, show goesB [92] = true from goes_some 10 (by decide) (by decide)] at hg
    clear hl hsz
    go_enter Tryd.func28, Tryd.ntmps28
    go_wp2_with fail
    refine (hg.out _ HT.out).mono ?_
    rintro e w1 ⟨rfl, hb1⟩
    go_wp2
    go_ret3
    exact ⟨rfl, hb1⟩
  | d :: r =>
    have h1 : 1 < t.size := by rw [hsz]; simp
    have hd1 : decide (1 < t.size) = true := by simpa using h1
    have hi : (t[1]'h1) = d := byte_of hl 1 h1 d rfl
    by_cases hd : d = 120
    · subst hd
      have hx : ((t[1]'h1).toNat : Int) = 120 := by rw [hi]; rfl
      match r with
      | a :: b :: r =>
        have h4 : decide (4 ≤ t.size) = true := by rw [hsz]; simp
        have h4' : 4 ≤ t.size := by rw [hsz]; simp
        have hh := hidden (fun W h => hexed_calls (t.extract 0 4) a b W h (by simp [HL.out]))
        have hR := hidden (show escV (120 :: a :: b :: r) = hexV [a, b] from rfl)
        generalize hexV [a, b] = v at *
        clear hl hsz hi
        go_enter Tryd.func28, Tryd.ntmps28
        go_wp2_with fail
        refine (hh.out _ HT.out).mono ?_
        rintro e w1 ⟨rfl, hb1⟩
        go_wp2
        go_ret3
        exact ⟨by rw [hR.out]; rfl, hb1⟩
      | [] =>
        have h4 : decide ((4 : Int) ≤ t.size) = false := by rw [hsz]; simp
        have hg := hidden (fun W h => goes_calls t W h)
        have hR := hidden (show escV [120] = if goesB t.data.toList = true then (0, 0, 4) else (0, 0, 3) by rw [hl]; rfl)
        generalize goesB t.data.toList = g at hg hR
        generalize escV [120] = v at *
        clear hl hsz hi
        cases g
        all_goals
          go_enter Tryd.func28, Tryd.ntmps28
          go_wp2_with fail
          refine (hg.out _ HT.out).mono ?_
          rintro e w1 ⟨rfl, hb1⟩
          go_wp2
          go_ret3
          exact ⟨by rw [hR.out]; rfl, hb1⟩
      | [a] =>
        have h4 : decide ((4 : Int) ≤ t.size) = false := by rw [hsz]; simp
        have hg := hidden (fun W h => goes_calls t W h)
        have hR := hidden (show escV [120, a] = if goesB t.data.toList = true then (0, 0, 4) else (0, 0, 3) by rw [hl]; rfl)
        generalize goesB t.data.toList = g at hg hR
        generalize escV [120, a] = v at *
        clear hl hsz hi
        cases g
        all_goals
          go_enter Tryd.func28, Tryd.ntmps28
          go_wp2_with fail
          refine (hg.out _ HT.out).mono ?_
          rintro e w1 ⟨rfl, hb1⟩
          go_wp2
          go_ret3
          exact ⟨by rw [hR.out]; rfl, hb1⟩
    · have hx : (((t[1]'h1).toNat : Int) == 120) = false := by
        rw [hi]
        simp only [beq_eq_false_iff_ne, ne_eq]
        intro e
        exact hd (UInt8.toNat_inj.1 (by have : (120 : UInt8).toNat = 120 := rfl; omega))
      have hN := hidden (fun W h => readName_calls d W h (escV (d :: r)) (nameV_same d hd r))
      generalize escV (d :: r) = v at *
      rw [← hi] at hN
      clear hl hsz hi hd
      go_enter Tryd.func28, Tryd.ntmps28
      go_wp2_with fail
      refine (hN.out _ HT.out).mono ?_
      rintro e w1 ⟨rfl, hb1⟩
      go_wp2
      go_ret3
      exact ⟨rfl, hb1⟩

theorem opens_calls (t : ByteArray) (w : World) :
    Calls Tryd.prog 22 #[.string t] w fun e w' => e = .returned (.bool (decide (t.data.toList.head? = some 34))) ∧ w = w' := by
  by_cases h0 : 0 < t.size
  · have hq2 : ¬ t.toList = [] := fun e => by
      rw [ByteArray.toList_eq] at e
      have : t.data.toList.length = t.size := by simp
      rw [e] at this
      simp at this
      omega
    have hq : t.toList.isEmpty = false := by simpa using hq2
    have hh : t.data.toList.head? = some (t[0]'h0) := by
      rw [List.head?_eq_getElem?, List.getElem?_eq_getElem (by simpa using h0)]
      rfl
    by_cases h : (t[0]'h0).toNat = 34
    · have hR := hidden (show decide (t.data.toList.head? = some 34) = true by
        rw [hh]
        simp only [Option.some.injEq, decide_eq_true_eq]
        exact UInt8.toNat_inj.1 h)
      generalize decide (t.data.toList.head? = some 34) = p at hR ⊢
      have hx : ((t[0]'h0).toNat : Int) = 34 := by omega
      clear hh h
      go_enter Tryd.func22, Tryd.ntmps22
      go_wp2
      go_ret
      exact ⟨ret_b hR.out.symm, rfl⟩
    · have hR := hidden (show decide (t.data.toList.head? = some 34) = false by
        rw [hh]
        simp only [Option.some.injEq, decide_eq_false_iff_not]
        intro e
        exact h (by rw [e]; rfl))
      generalize decide (t.data.toList.head? = some 34) = p at hR ⊢
      have hx : (((t[0]'h0).toNat : Int) == 34) = false := by simp; omega
      clear hh h
      go_enter Tryd.func22, Tryd.ntmps22
      go_wp2
      go_ret
      exact ⟨ret_b hR.out.symm, rfl⟩
  · have e : t = ⟨#[]⟩ := by
      apply Go.WideShapes.bytes_inj
      have : t.data.toList.length = t.size := by simp
      exact List.eq_nil_of_length_eq_zero (by omega)
    subst e
    go_enter Tryd.func22, Tryd.ntmps22
    go_wp2
    go_ret
    exact ⟨rfl, rfl⟩

set_option maxHeartbeats 1000000 in
theorem one_calls (t : ByteArray) (w : World) (ht : Tab w) (h0 : t.data.toList ≠ []) :
    Calls Tryd.prog 23 #[.string t] w fun e w' => e = R3 (rdV t.data.toList) ∧ Below w.heap.size w w' := by
  have HT := hidden ht
  clear ht
  match hl : t.data.toList, h0 with
  | c :: r, _ =>
    have hp : 0 < t.size := by rw [size_of hl]; simp
    have hi : (t[0]'hp) = c := byte_of hl 0 hp c rfl
    by_cases hc : c = 92
    · subst hc
      have hx : ((t[0]'hp).toNat : Int) = 92 := by rw [hi]; rfl
      have hE := hidden (fun W h => readEscape_calls t r W h hl)
      have hR := hidden (show rdV (92 :: r) = escV r from rfl)
      generalize rdV (92 :: r) = x at *
      generalize escV r = v at *
      clear hl hi
      go_enter Tryd.func23, Tryd.ntmps23
      go_wp2_with fail
      refine (hE.out _ HT.out).mono ?_
      rintro e w1 ⟨rfl, hb1⟩
      unfold R3
      go_wp2
      go_ret3
      exact ⟨by rw [hR.out]; rfl, hb1⟩
    · have hx : (((t[0]'hp).toNat : Int) == 92) = false := by
        rw [hi]
        simp only [beq_eq_false_iff_ne, ne_eq]
        intro e
        exact hc (UInt8.toNat_inj.1 (by have : (92 : UInt8).toNat = 92 := rfl; omega))
      have hP := hidden (fun W => printed_calls (((t[0]'hp).toNat : Int)) W)
      by_cases hd : 32 ≤ c ∧ c ≤ 126
      · have hR := hidden (show rdV (c :: r) = (((t[0]'hp).toNat : Int), 1, 0) by rw [rdV, if_neg hc, if_pos hd, hi])
        rw [show decide ((32 : Int) ≤ ((t[0]'hp).toNat : Int) ∧ ((t[0]'hp).toNat : Int) ≤ 126) = true by
          rw [hi]
          have h1 : 32 ≤ c.toNat := UInt8.le_iff_toNat_le.1 hd.1
          have h2 : c.toNat ≤ 126 := UInt8.le_iff_toNat_le.1 hd.2
          simp
          omega] at hP
        generalize rdV (c :: r) = x at *
        clear hl hi hd
        go_enter Tryd.func23, Tryd.ntmps23
        go_wp2_with fail
        refine (hP.out _).mono ?_
        rintro e w' ⟨rfl, rfl⟩
        go_wp2
        go_ret3
        exact ⟨by rw [hR.out]; rfl, Below.refl _ _⟩
      · have hR := hidden (show rdV (c :: r) = (0, 0, 3) by rw [rdV, if_neg hc, if_neg hd])
        rw [show decide ((32 : Int) ≤ ((t[0]'hp).toNat : Int) ∧ ((t[0]'hp).toNat : Int) ≤ 126) = false by
          rw [hi]
          simp only [decide_eq_false_iff_not]
          intro h
          exact hd ⟨UInt8.le_iff_toNat_le.2 (by have : (32 : UInt8).toNat = 32 := rfl; omega), UInt8.le_iff_toNat_le.2 (by have : (126 : UInt8).toNat = 126 := rfl; omega)⟩] at hP
        generalize rdV (c :: r) = x at *
        clear hl hi hd
        go_enter Tryd.func23, Tryd.ntmps23
        go_wp2_with fail
        refine (hP.out _).mono ?_
        rintro e w' ⟨rfl, rfl⟩
        go_wp2
        go_ret3
        exact ⟨by rw [hR.out]; rfl, Below.refl _ _⟩
end Go.Proofs.YtkonmgfgnppmlaaDoor
