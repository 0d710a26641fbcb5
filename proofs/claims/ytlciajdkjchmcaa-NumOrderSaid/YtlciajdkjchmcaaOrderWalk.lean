/- the walk of: 'NumOrder' answers true for every number, every list of numbers and every byte: the sum that stops does not hang on the order of the numbers, sums of a part and of the rest, summed, are that of all, no sum is more than its top, and the chapter's examples hold. Conditions: none. -/
import Derived.Test.YtlciajdkjchmcaaKnows
import Derived.Deep.RegionWith
namespace Go.Proofs.Ytlciajdkjchmcaa.lawNumOrder
open Go.ChangeShapes Go.WideShapes Go.ChangeAt Go.RowKit
open Go.ChangeMaps (open_string shut_string)

theorem info_int : (Try.prog.info? 3).map (fun i => (i.zero, i.size, i.bytes)) = some (some (.int .i64 0), 1, 8) := by kernel_rfl
theorem cell_one (w : World) (x : Value) (t : TypeId) : ∀ j u, [x][j]? = some u → (w.alloc (.cells #[x] t)).cell? ((⟨w.heap.size, 0, none⟩ : Addr).add j) = some u := by
  intro j u h
  match j, h with
  | 0, h =>
    simp at h
    subst h
    simp [Addr.add]
theorem rev_next (zs : List Int) (j : Nat) (h : j < zs.length) : (zs.drop (j + 1)).reverse ++ [zs.getD j 0] = (zs.drop j).reverse := by
  rw [List.drop_eq_getElem_cons h, List.reverse_cons, List.getD_eq_getElem?_getD, List.getElem?_eq_getElem h]; rfl

theorem fits_take {zs : List Int} (h : Fits .i64 zs) (t : Nat) : AllInts (zs.take t) := fun i hi => by
  have hi' : i < t ∧ i < zs.length := by simp at hi; omega
  have e : (zs.take t).getD i 0 = zs.getD i 0 := by simp [List.getD_eq_getElem?_getD, hi'.1]
  rw [e]
  exact wf_i64 (h i hi'.2)
theorem fits_drop {zs : List Int} (h : Fits .i64 zs) (t : Nat) : AllInts (zs.drop t) := fun i hi => by
  have hi' : t + i < zs.length := by simp at hi; omega
  have e : (zs.drop t).getD i 0 = zs.getD (t + i) 0 := by simp [List.getD_eq_getElem?_getD]
  rw [e]
  exact wf_i64 (h _ hi')

/-- the call at the first numbers -/
theorem cap_lo {n : Int} {a : Option Addr} {len : Nat} {zs : List Int} {w : World} (hn : -9223372036854775808 ≤ n ∧ n ≤ 9223372036854775807) (hl : len ≤ maxLen) (h3 : Fits .i64 zs)
    (h4 : Ints .i64 w w.heap.size a len zs) (t c : Nat) (ht : t ≤ len) (W : World) (hb : Below w.heap.size w W) :
    Calls Try.prog 14 #[.int .i64 n, .slice a t c] W fun e w' => e = .returned (.int .i64 (capV n (zs.take t))) ∧ Below W.heap.size W w' := by
  refine cap_calls n a t c (zs.take t) W hn.1 hn.2 (by omega) (fits_take h3 t) ⟨by have := h4.1; simp; omega, fun hp => ?_⟩
  obtain ⟨b, off, e, hB, hc⟩ := h4.2 (by omega)
  refine ⟨b, off, e, by have := hb.size; omega, fun i hi => ?_⟩
  rw [hb.cell (p := ⟨b, off + i, none⟩) hB, hc i (by omega)]
  simp [List.getD_eq_getElem?_getD, hi]
/-- the call at the last ones -/
theorem cap_hi {n : Int} {b off len : Nat} {zs : List Int} {w : World} (hn : -9223372036854775808 ≤ n ∧ n ≤ 9223372036854775807) (hl : len ≤ maxLen) (h3 : Fits .i64 zs)
    (h4 : Ints .i64 w w.heap.size (some ⟨b, off, none⟩) len zs) (t c : Nat) (ht : t < len) (W : World) (hb : Below w.heap.size w W) :
    Calls Try.prog 14 #[.int .i64 n, .slice (some ⟨b, off + t, none⟩) (len - t) c] W fun e w' => e = .returned (.int .i64 (capV n (zs.drop t))) ∧ Below W.heap.size W w' := by
  refine cap_calls n _ (len - t) c (zs.drop t) W hn.1 hn.2 (by omega) (fits_drop h3 t) ⟨by have := h4.1; simp; omega, fun hp => ?_⟩
  obtain ⟨b', off', e, hB, hc⟩ := h4.2 (by omega)
  simp only [Option.some.injEq, Addr.mk.injEq, and_true] at e
  obtain ⟨rfl, rfl⟩ := e
  refine ⟨b, off + t, rfl, by have := hb.size; omega, fun i hi => ?_⟩
  rw [hb.cell (p := ⟨b, off + t + i, none⟩) hB, Nat.add_assoc, hc (t + i) (by omega)]
  simp [List.getD_eq_getElem?_getD]
def sumPos (xs : List Int) : Int := xs.foldr (fun x s => max x 0 + s) 0
theorem cap_nil {n : Int} (hn : -9223372036854775808 ≤ n ∧ n ≤ 9223372036854775807) (a : Option Addr) (c : Nat) (W : World) :
    Calls Try.prog 14 #[.int .i64 n, .slice a 0 c] W fun e w' => e = .returned (.int .i64 (capV n [])) ∧ Below W.heap.size W w' :=
  cap_calls n a 0 c [] W hn.1 hn.2 (by unfold maxLen; omega) (fun i hi => absurd hi (by simp)) ⟨rfl, fun h => absurd h (by omega)⟩
theorem sumPos_cons (x : Int) (r : List Int) : sumPos (x :: r) = max x 0 + sumPos r := rfl
theorem sumPos_nonneg : ∀ xs : List Int, 0 ≤ sumPos xs
  | [] => Int.le_refl _
  | x :: r => by rw [sumPos_cons]; have := sumPos_nonneg r; omega
theorem sumPos_append : ∀ xs ys : List Int, sumPos (xs ++ ys) = sumPos xs + sumPos ys
  | [], ys => by simp [sumPos]
  | x :: r, ys => by rw [List.cons_append, sumPos_cons, sumPos_cons, sumPos_append r ys]; omega
theorem sumPos_reverse : ∀ xs : List Int, sumPos xs.reverse = sumPos xs
  | [] => rfl
  | x :: r => by rw [List.reverse_cons, sumPos_append, sumPos_reverse r, sumPos_cons, sumPos_cons]; simp [sumPos]; omega
theorem capF_sum (t : Int) : ∀ (xs : List Int) (s : Int), 0 ≤ s → s ≤ t → capF t s xs = min t (s + sumPos xs)
  | [], s, h0, h1 => by simp [capF, sumPos]; omega
  | x :: r, s, h0, h1 => by
    have := sumPos_nonneg r
    show capF t (s + min (max x 0) (t - s)) r = _
    rw [capF_sum t r _ (by omega) (by omega), sumPos_cons]
    omega
theorem capV_sum (n : Int) (xs : List Int) : capV n xs = min (max n 0) (sumPos xs) := by
  unfold capV
  rw [capF_sum _ _ _ (Int.le_refl _) (by omega)]
  simp
theorem capV_turned (n : Int) (xs : List Int) : capV n xs.reverse = capV n xs := by rw [capV_sum, capV_sum, sumPos_reverse]
theorem capV_parts (n : Int) (xs : List Int) (t : Nat) : capV n [capV n (xs.take t), capV n (xs.drop t)] = capV n xs := by
  have e : sumPos xs = sumPos (xs.take t) + sumPos (xs.drop t) := by rw [← sumPos_append, List.take_append_drop]
  have h1 := sumPos_nonneg (xs.take t)
  have h2 := sumPos_nonneg (xs.drop t)
  have e2 : ∀ a b : Int, sumPos [a, b] = max a 0 + (max b 0 + 0) := fun _ _ => rfl
  rw [capV_sum n xs, capV_sum n (xs.take t), capV_sum n (xs.drop t), capV_sum, e, e2]
  omega
theorem cap_end {n : Int} (hn : -9223372036854775808 ≤ n ∧ n ≤ 9223372036854775807) (a : Option Addr) (c : Nat) (zs : List Int) (t : Nat) (ht : zs.length ≤ t) (W : World) :
    Calls Try.prog 14 #[.int .i64 n, .slice a 0 c] W fun e w' => e = .returned (.int .i64 (capV n (zs.drop t))) ∧ Below W.heap.size W w' := by
  rw [List.drop_of_length_le ht]
  exact cap_nil hn a c W
theorem own_ints {w : World} {base : Nat} {v : Value} {len : Nat} {xs : List Int} (h : w.ownsRow base 3 1 v len (xs.map (Value.int .i64))) : ∃ a c, v = .slice a len c ∧ Ints .i64 w w.heap.size a len xs := by
  have hl : xs.length = len := by simpa using h.1
  rcases h.2 with ⟨rfl, rfl⟩ | ⟨g, c, cur, rfl, _, hg, _⟩
  · exact ⟨_, _, rfl, hl, fun h => absurd h (by omega)⟩
  · refine ⟨_, _, rfl, hl, fun hp => ⟨g, 0, rfl, (h.lt g rfl).2, fun i hi => ?_⟩⟩
    rw [Nat.zero_add, h.cellAt i (by omega)]
    simp [List.getD_eq_getElem?_getD, List.getElem?_eq_getElem (show i < xs.length by omega)]
theorem cap_two {n : Int} (hn : -9223372036854775808 ≤ n ∧ n ≤ 9223372036854775807) {A B T : Int} (hA : -9223372036854775808 ≤ A ∧ A ≤ 9223372036854775807) (hB : -9223372036854775808 ≤ B ∧ B ≤ 9223372036854775807)
    (hT : Hid (capV n [A, B] = T)) (w : World) :
    Calls Try.prog 14 #[.int .i64 n, .slice (some ⟨w.heap.size, 0, none⟩) 2 2] (w.alloc (.cells #[.int .i64 A, .int .i64 B] 3)) fun e w' => e = .returned (.int .i64 T) ∧ Below (w.heap.size + 1) (w.alloc (.cells #[.int .i64 A, .int .i64 B] 3)) w' := by
  have h := cap_calls n (some ⟨w.heap.size, 0, none⟩) 2 2 [A, B] (w.alloc (.cells #[.int .i64 A, .int .i64 B] 3)) hn.1 hn.2 (by decide) (fun i hi => by
    match i, hi with
    | 0, _ => exact hA
    | 1, _ => exact hB) ⟨rfl, fun _ => ⟨w.heap.size, 0, rfl, by simp, fun i hi => by
      match i, hi with
      | 0, _ => simp
      | 1, _ => simp⟩⟩
  rw [hT.out] at h
  simpa using h
theorem cap_all {n : Int} {a : Option Addr} {len : Nat} {zs : List Int} {w : World} (hn : -9223372036854775808 ≤ n ∧ n ≤ 9223372036854775807) (hl : len ≤ maxLen) (h3 : Fits .i64 zs)
    (h4 : Ints .i64 w w.heap.size a len zs) (c : Nat) {T : Int} (hT : T = capV n zs) (W : World) (hb : Below w.heap.size w W) :
    Calls Try.prog 14 #[.int .i64 n, .slice a len c] W fun e w' => e = .returned (.int .i64 T) ∧ Below W.heap.size W w' := by
  have h := cap_lo hn hl h3 h4 len c (Nat.le_refl _) W hb
  rw [List.take_of_length_le (by rw [h4.1]; exact Nat.le_refl _), ← hT] at h
  exact h
theorem fits_turned {zs : List Int} (h : Fits .i64 zs) : AllInts zs.reverse := fun i hi => by
  have hi' : i < zs.length := by simpa using hi
  have e : zs.reverse.getD i 0 = zs.getD (zs.length - 1 - i) 0 := by
    rw [List.getD_eq_getElem?_getD, List.getD_eq_getElem?_getD, List.getElem?_reverse hi']
  rw [e]
  exact wf_i64 (h _ (by omega))
theorem cap_turned {n : Int} {a : Option Addr} {len : Nat} {zs : List Int} {w : World} (hn : -9223372036854775808 ≤ n ∧ n ≤ 9223372036854775807) (hl : len ≤ maxLen) (h3 : Fits .i64 zs)
    (h4 : Ints .i64 w w.heap.size a len zs.reverse) (c : Nat) {T : Int} (hT : T = capV n zs) (W : World) (hb : Below w.heap.size w W) :
    Calls Try.prog 14 #[.int .i64 n, .slice a len c] W fun e w' => e = .returned (.int .i64 T) ∧ Below W.heap.size W w' := by
  have h := cap_calls n a len c zs.reverse W hn.1 hn.2 hl (fits_turned h3) (ints_below h4 hb)
  rw [capV_turned, ← hT] at h
  exact h

set_option maxHeartbeats 2000000 in
set_option maxRecDepth 100000 in
theorem walk (n : Int) (a : Option Addr) (len cap : Nat) (zs : List Int) (k : Int) (w : World) (hn : -9223372036854775808 ≤ n ∧ n ≤ 9223372036854775807)
    (h : len ≤ cap ∧ cap ≤ maxLen ∧ Fits .i64 zs ∧ Ints .i64 w w.heap.size a len zs) (hcap : cap * 8 ≤ 140737488351232) (hk : 0 ≤ k ∧ k ≤ 255) :
    Calls Try.prog 8 #[.int .i64 n, .slice a len cap, .int .u8 k] w fun e w' => e = .returned (.bool true) ∧ Below w.heap.size w w' := by
  obtain ⟨h1, h2, h3, h4⟩ := h
  have H4 := hidden h4
  have Hl := hidden h4.1
  clear h4
  obtain ⟨i0, hi, hz0, hz1, hz2⟩ := info_parts info_int
  go_enter Try.func8, Try.ntmps8
  go_wp2
  go_loopw [7, 8] (fun v i wr => ∃ j : Nat, j ≤ len ∧ i = .int .i64 ((j : Int) - 1) ∧ wr.ownsRow w.heap.size 3 1 v (len - j) (((zs.drop j).reverse).map (Value.int .i64)) ∧ Below w.heap.size w wr) (fun _ i _ => (intOf i + 1).toNat)
  case atStart =>
    refine ⟨len, Nat.le_refl _, rfl, ?_, (Below.refl _ _).alloc (Nat.le_refl _) _⟩
    rw [Nat.sub_self, List.drop_of_length_le (by have := Hl.out; omega)]
    exact World.ownsRow_made w #[] 0 (Nat.le_refl _) (Nat.zero_le _) rfl
  case round =>
    obtain ⟨j, hj, rfl, hown, hb⟩ := hrel
    by_cases hlt : 0 < j
    · obtain ⟨m, rfl⟩ : ∃ m, j = m + 1 := ⟨j - 1, by omega⟩
      obtain ⟨b, off, rfl, hB, hcell⟩ := H4.out.2 (by omega)
      have hcx : wr.cell? ⟨b, off + m, none⟩ = some (.int .i64 (zs.getD m 0)) := (hb.cell (p := ⟨b, off + m, none⟩) hB).trans (hcell m (by omega))
      clear hcell
      have em : ((m + 1 : Nat) : Int) - 1 = (m : Int) := by omega
      rw [em]
      have Hm := hidden (rev_next zs m (by have := Hl.out; omega))
      clear em
      go_wp2_with (at_builtin; refine wpList_append_own _ rfl _ _ 29 rfl w.heap.size 3 i0 (.int .i64 0) 1 8 Try.underlying29 hi hz0 hz1 hz2 rfl (by decide) _ _ _ rfl (hown.alloc _) ⟨wr.heap.size, 0, none⟩ 1 1 [.int .i64 (zs.getD m 0)] rfl rfl ?c1 ?c2 ?c3 ?c4 ?c5 ?_)
      case c1 => exact cell_one _ _ _
      case c2 => simp [Value.oneCell']
      case c3 => unfold maxLen; omega
      case c4 => omega
      case c5 => have := hb.size; simp; omega
      intro v' w1 hown' hgrow _
      go_wp2
      refine ⟨⟨m, by omega, rfl, ?_, ?_⟩, by simp [intOf]⟩
      · have e := Hm.out
        rw [← e, show len - m = len - (m + 1) + 1 by omega]
        simpa using hown'
      · refine (hb.alloc hb.size _).grown hgrow (by have := hb.size; simp; omega) (fun g hg => (hown.lt g hg).1)
    · obtain rfl : j = 0 := by omega
      obtain ⟨k, rfl⟩ := Int.eq_ofNat_of_zero_le hk.1
      rw [Nat.sub_zero, List.drop_zero] at hown
      have hTb := capF_bounds (t := max n 0) zs 0 (by omega) (by omega)
      obtain ⟨T, hT⟩ : ∃ T, T = capV n zs := ⟨_, rfl⟩
      have hT0 : 0 ≤ T := by rw [hT]; exact hTb.1
      have hT1 : T ≤ max n 0 := by rw [hT]; exact hTb.2
      clear hTb
      replace hT := hidden hT
      obtain ⟨ao, co, hv, hI⟩ := own_ints hown
      rw [hv]
      clear hv hown
      replace hI := hidden hI
      have hnn : (n < 0 ∧ T ≤ 0) ∨ (0 ≤ n ∧ T ≤ n) := by omega
      clear hT1
      by_cases hkl : k < len
      · obtain ⟨b, off, rfl, hB, _⟩ := H4.out.2 (by omega)
        have hP := capV_parts n zs k
        have hAb : -9223372036854775808 ≤ capV n (zs.take k) ∧ capV n (zs.take k) ≤ 9223372036854775807 := by
          have := capF_bounds (t := max n 0) (zs.take k) 0 (by omega) (by omega)
          unfold capV
          omega
        have hBb : -9223372036854775808 ≤ capV n (zs.drop k) ∧ capV n (zs.drop k) ≤ 9223372036854775807 := by
          have := capF_bounds (t := max n 0) (zs.drop k) 0 (by omega) (by omega)
          unfold capV
          omega
        rw [← hT.out] at hP
        replace hP := hidden hP
        replace hAb := hidden hAb
        replace hBb := hidden hBb
        go_wp2
        go_region_with (first | (go_at_call 14; (with_reducible refine (cap_lo hn (by omega) h3 H4.out k _ (by omega) _ ?_).mono ?_); exact hb.drew; rintro e w1 ⟨rfl, hb1⟩) | (go_at_call 14; (with_reducible refine (cap_hi hn (by omega) h3 H4.out k _ (by omega) _ ?_).mono ?_); exact below_then hb.drew hb.size hb1; rintro e w2 ⟨rfl, hb2⟩))
        all_goals
          have hbr : Below wr.heap.size wr w2 := below_after (a := wr) (w := w1) (by exact ((Below.refl wr.heap.size wr).drew).trans hb1) hb2
          have hbW : Below w.heap.size w w2 := below_then hb hb.size hbr
          go_wp2_with fail
          refine (cap_all hn (by omega) h3 H4.out _ hT.out _ ?_).mono ?_
          exact hbW
          rintro e w3 ⟨rfl, hb3⟩
          go_wp2_with fail
          refine (cap_turned hn (by omega) h3 hI.out _ hT.out _ ?_).mono ?_
          exact below_after hbr hb3
          rintro e w4 ⟨rfl, hb4⟩
          go_wp2_with fail
          refine (cap_two hn hAb.out hBb.out hP _).mono ?_
          rintro e w5 ⟨rfl, hb5⟩
          rcases hnn with ⟨hn1, hn2⟩ | ⟨hn1, hn2⟩
          all_goals
            go_wp2_with fail
            refine (knows_calls _).mono ?_
            rintro e w6 ⟨rfl, hb6⟩
            go_wp2
            go_ret
            refine ⟨rfl, ?_⟩
            have hb45 : Below w4.heap.size w4 w5 := ((Below.refl _ _).alloc (Nat.le_refl _) _).trans (hb5.mono (Nat.le_succ _))
            exact below_after (below_after (below_after (below_after hbW hb3) hb4) hb45) hb6
      · have hP := capV_parts n zs len
        have hAb : -9223372036854775808 ≤ capV n (zs.take len) ∧ capV n (zs.take len) ≤ 9223372036854775807 := by
          have := capF_bounds (t := max n 0) (zs.take len) 0 (by omega) (by omega)
          unfold capV
          omega
        have hBb : -9223372036854775808 ≤ capV n (zs.drop len) ∧ capV n (zs.drop len) ≤ 9223372036854775807 := by
          have := capF_bounds (t := max n 0) (zs.drop len) 0 (by omega) (by omega)
          unfold capV
          omega
        rw [← hT.out] at hP
        replace hP := hidden hP
        replace hAb := hidden hAb
        replace hBb := hidden hBb
        have hle := hidden (show zs.length ≤ len by rw [Hl.out]; exact Nat.le_refl _)
        have hcl : len = cap ∨ len < cap := by omega
        have hkk : len = k ∨ len < k := by omega
        clear hkl
        rcases hkk with rfl | hkk <;> rcases hcl with rfl | hcl
        all_goals
          go_wp2
          go_region_with (first | (go_at_call 14; (with_reducible refine (cap_lo hn (by omega) h3 H4.out len _ (by omega) _ ?_).mono ?_); exact hb.drew; rintro e w1 ⟨rfl, hb1⟩) | (go_at_call 14; (with_reducible refine (cap_end hn _ _ zs len hle.out _).mono ?_); rintro e w2 ⟨rfl, hb2⟩))
          all_goals
            have hbr : Below wr.heap.size wr w2 := below_after (a := wr) (w := w1) (by exact ((Below.refl wr.heap.size wr).drew).trans hb1) hb2
            have hbW : Below w.heap.size w w2 := below_then hb hb.size hbr
            go_wp2_with fail
            refine (cap_all hn (by omega) h3 H4.out _ hT.out _ ?_).mono ?_
            exact hbW
            rintro e w3 ⟨rfl, hb3⟩
            go_wp2_with fail
            refine (cap_turned hn (by omega) h3 hI.out _ hT.out _ ?_).mono ?_
            exact below_after hbr hb3
            rintro e w4 ⟨rfl, hb4⟩
            go_wp2_with fail
            refine (cap_two hn hAb.out hBb.out hP _).mono ?_
            rintro e w5 ⟨rfl, hb5⟩
            rcases hnn with ⟨hn1, hn2⟩ | ⟨hn1, hn2⟩
            all_goals
              go_wp2_with fail
              refine (knows_calls _).mono ?_
              rintro e w6 ⟨rfl, hb6⟩
              go_wp2
              go_ret
              refine ⟨rfl, ?_⟩
              have hb45 : Below w4.heap.size w4 w5 := ((Below.refl _ _).alloc (Nat.le_refl _) _).trans (hb5.mono (Nat.le_succ _))
              exact below_after (below_after (below_after (below_after hbW hb3) hb4) hb45) hb6

end Go.Proofs.Ytlciajdkjchmcaa.lawNumOrder
