/- RxMany, SetOps, SetLoops, put together. -/
import Derived.Test.YtbokhofdgdcpdaaDoorSp04
import Derived.Test.YtbokhofdgdcpdaaDoorSp05
import Derived.Test.YtbokhofdgdcpdaaDoorSp03
import Derived.Handy
/- Contracts of the reference's many, One, Cat and Alt; of the program's Cat and Alt. -/
namespace Go.Proofs.YtbokhofdgdcpdaaDoor
open Go.RowKit Go.Lib Go.Joins

theorem jn_zero (k : Int) (LL : List (List Stp)) (h : 0 < LL.length) : jn k (LL.take 1) = jn k (LL.take 0) ++ LL.getD 0 [] := by
  cases LL with
  | nil => simp at h
  | cons x R => simp [jn, jt]
theorem jn_take (k : Int) (LL : List (List Stp)) (j : Nat) (h : j < LL.length) (hj : 0 < j) : jn k (LL.take (j + 1)) = jn k (LL.take j) ++ LL.getD j [] ++ [kStp k] := by
  cases LL with
  | nil => simp at h
  | cons x R =>
    obtain ⟨i, rfl⟩ : ∃ i, j = i + 1 := ⟨j - 1, by omega⟩
    rw [List.take_succ_cons, List.take_succ_cons, List.getD_cons_succ]
    simp only [jn]
    rw [jt_take k R i (by simpa using h), List.append_assoc, List.append_assoc, List.append_assoc]
theorem jn_le (k : Int) (LL : List (List Stp)) (j : Nat) : (jn k (LL.take j)).length ≤ (jn k LL).length := by
  cases LL with
  | nil => simp
  | cons x R =>
    cases j with
    | zero => simp [jn]
    | succ i =>
      have := jt_le k R i
      simp [jn]
      omega
/-- a row of the call's own, and what was there -/
def Mk (w : World) (base : Nat) (L : List Stp) (v : Value) (wr : World) : Prop := RowX wr base v L ∧ Below w.heap.size w wr ∧ base ≤ wr.heap.size
theorem Mk.grown {w wr w1 : World} {base : Nat} {L M : List Stp} {v v' : Value} (h : Mk w base L v wr) (hB : w.heap.size ≤ base) (h1 : RowX w1 base v' M) (hg : wr.grownBy w1 v.ownBlock) : Mk w base M v' w1 :=
  ⟨h1, h.2.1.grown hg (Nat.le_trans hB h.2.2) fun j e => Nat.le_trans hB ((h.1.lt j e).1), Nat.le_trans h.2.2 hg.size⟩
theorem Mk.alloc {w wr : World} {base : Nat} {L : List Stp} {v : Value} (h : Mk w base L v wr) (hB : w.heap.size ≤ base) (o : Obj) : Mk w base L v (wr.alloc o) :=
  ⟨World.ownsRow.alloc h.1 o, h.2.1.alloc (Nat.le_trans hB h.2.2) o, by have := h.2.2; simp; omega⟩
theorem mk_nil (w : World) (cur : Array Value) (h : cur = #[]) (b : Nat) (hb : b = w.heap.size) : Mk w w.heap.size [] (.slice (some ⟨b, 0, none⟩) 0 0) (w.alloc (.cells cur 67)) := by
  subst h hb
  exact ⟨World.ownsRow_lit (e := 67) (size := 5) w #[] 0 (Nat.le_refl _) (by decide) rfl, (Below.refl _ _).alloc (Nat.le_refl _) _, by simp⟩
set_option maxHeartbeats 4000000 in
set_option maxRecDepth 100000 in
theorem many_calls {C : Nat → Prop} (w : World) (k : Int) (v : Value) (LL : List (List Stp)) (h : SlXs C w v LL) (hC : ∀ b, C b → b < w.heap.size) (hsz : (jn k LL).length ≤ 1000000) :
    Calls Tryd.prog 60 #[v, .int .i64 k] w (RetX w (jn k LL)) := by
  obtain ⟨a, cap, rfl, h1, h2, hS⟩ := h
  obtain ⟨m, hm⟩ : ∃ m, m = LL.length := ⟨_, rfl⟩
  rw [← hm] at h1 hS ⊢
  have HS := hidden hS
  have HM := hidden hm
  have HK := hidden (fun (W : World) (hb : Below w.heap.size w W) c hc => (⟨trivial, hb.block c (hC c hc)⟩ : True ∧ W.heap[c]? = w.heap[c]?))
  unfold maxLen at h2
  clear hS hm
  go_enter Tryd.func60, Tryd.ntmps60
  go_wp2
  go_loopw [5, 6] (fun o i wr => ∃ j : Nat, j ≤ m ∧ i = .int .i64 j ∧ Mk w w.heap.size (jn k (LL.take j)) o wr) (fun _ i _ => m - (intOf i).toNat)
  case atStart => exact ⟨0, by omega, rfl, mk_nil w _ rfl _ rfl⟩
  case round =>
    obtain ⟨j, hj, rfl, hmk⟩ := hrel
    have HJ := hidden hmk
    clear hmk
    by_cases hlt : j < m
    · obtain ⟨b, off, rfl, hCb, hc⟩ := HS.out.2 (by omega)
      obtain ⟨y, hy, hyx⟩ := hc j hlt
      have hy' : wr.cell? ⟨b, off + j, none⟩ = some y := (HJ.out.2.1.cell (p := ⟨b, off + j, none⟩) (hC b hCb)).trans hy
      have HY := hidden (SlX.below (w' := wr) (C' := fun _ => True) hyx (HK.out wr HJ.out.2.1))
      have hle := jn_le k LL (j + 1)
      have hmL : j < LL.length := by rw [← HM.out]; exact hlt
      clear hc hyx hy
      by_cases hj0 : j = 0
      · subst hj0
        have HN := hidden (jn_zero k LL hmL)
        rw [HN.out, List.length_append] at hle
        rw [Nat.add_zero] at hy'
        go_wp2_with (at_builtin; refine append_rx rfl rfl _ _ rfl w.heap.size _ _ _ _ rfl HJ.out.1 rfl HY.out (by omega) HJ.out.2.2 ?_; intro a' l' c' w1 hr1 hg1)
        have HJ1 := hidden (HJ.out.grown (Nat.le_refl _) hr1 hg1)
        clear hr1 hg1
        go_wp2
        go_roundw
        case rel => exact ⟨1, by omega, rfl, by rw [HN.out]; exact HJ1.out⟩
        case measure => simp [intOf]; omega
      · have HN := hidden (jn_take k LL j hmL (by omega))
        rw [HN.out, List.length_append, List.length_append] at hle
        have hl1 : ([kStp k] : List Stp).length = 1 := rfl
        have hjp : 0 < j := by omega
        have hjd : decide ((0 : Int) < j) = true := decide_eq_true (by omega)
        go_wp2_with (at_builtin; first
          | (refine append_rx rfl rfl _ _ rfl w.heap.size _ _ _ _ rfl HJ.out.1 rfl HY.out (by omega) HJ.out.2.2 ?_; intro a' l' c' w1 hr1 hg1; have HJ1 := hidden (HJ.out.grown (Nat.le_refl _) hr1 hg1); clear hr1 hg1)
          | (refine append_rx rfl rfl _ _ rfl w.heap.size _ _ _ _ rfl (HJ1.out.alloc (Nat.le_refl _) _).1 rfl (one_slX w1 (kStp k) _ rfl) (by rw [List.length_append]; omega) (HJ1.out.alloc (Nat.le_refl _) _).2.2 ?_; intro a2 l2 c2 w2 hr2 hg2; have HJ2 := hidden ((HJ1.out.alloc (Nat.le_refl _) _).grown (Nat.le_refl _) hr2 hg2); clear hr2 hg2))
        go_roundw
        case rel => exact ⟨j + 1, by omega, by go_num, by rw [HN.out]; exact HJ2.out⟩
        case measure => simp [intOf]; omega
    · obtain rfl : j = m := by omega
      obtain ⟨hr, hb, _⟩ := HJ.out
      rw [List.take_of_length_le (by rw [HM.out]; exact Nat.le_refl _)] at hr
      have HR := hidden hr
      clear hr
      go_wp2
      go_ret
      exact ⟨_, rfl, HR.out, hb⟩
set_option maxHeartbeats 4000000 in
set_option maxRecDepth 100000 in
theorem onex_calls {C : Nat → Prop} (w : World) (k : Int) (v : Value) (L : List Stp) (h : SlX C w v L) (hC : ∀ b, C b → b < w.heap.size) (hsz : L.length ≤ 900000) :
    Calls Tryd.prog 103 #[v, .int .i64 k] w (RetX w (L ++ [kStp k])) := by
  obtain ⟨a, cap, rfl, h1, h2, _, hS⟩ := h
  obtain ⟨m, hm⟩ : ∃ m, m = L.length := ⟨_, rfl⟩
  rw [← hm] at h1 hS hsz ⊢
  have HS := hidden hS
  have HM := hidden hm
  unfold maxLen at h2
  clear hS hm
  go_enter Tryd.func103, Tryd.ntmps103
  go_wp2
  go_loopw [5, 6] (fun o i wr => ∃ j : Nat, j ≤ m ∧ i = .int .i64 j ∧ Mk w w.heap.size (L.take j) o wr) (fun _ i _ => m - (intOf i).toNat)
  case atStart => exact ⟨0, by omega, rfl, mk_nil w _ rfl _ rfl⟩
  case round =>
    obtain ⟨j, hj, rfl, hmk⟩ := hrel
    have HJ := hidden hmk
    clear hmk
    have hlen : (L.take j).length = j := by rw [List.length_take, ← HM.out]; omega
    have hl1 : ∀ s : Stp, ([s] : List Stp).length = 1 := fun _ => rfl
    by_cases hlt : j < m
    · obtain ⟨b, off, rfl, hCb, hc⟩ := HS.out.2 (by omega)
      obtain ⟨c0, c1, c2, c3, c4⟩ := (hc j hlt).kept (w' := wr) (HJ.out.2.1.block b (hC b hCb))
      have HN := hidden (take_moreX L j (by rw [← HM.out]; exact hlt))
      clear hc
      generalize L.getD j default = x at *
      go_wp2_with (at_builtin; refine append_rx rfl rfl _ _ rfl w.heap.size _ _ _ _ rfl (HJ.out.alloc (Nat.le_refl _) _).1 rfl (one_slX wr x _ rfl) (by rw [hlen, hl1]; omega) (HJ.out.alloc (Nat.le_refl _) _).2.2 ?_; intro a2 l2 c2' w2 hr2 hg2; have HJ2 := hidden ((HJ.out.alloc (Nat.le_refl _) _).grown (Nat.le_refl _) hr2 hg2); clear hr2 hg2)
      go_roundw
      case rel => exact ⟨j + 1, by omega, by go_num, by rw [HN.out]; exact HJ2.out⟩
      case measure => simp [intOf]; omega
    · obtain rfl : j = m := by omega
      rw [List.take_of_length_le (by rw [HM.out]; exact Nat.le_refl _)] at HJ
      go_wp2_with (at_builtin; refine append_rx rfl rfl _ _ rfl w.heap.size _ _ _ _ rfl (HJ.out.alloc (Nat.le_refl _) _).1 rfl (one_slX wr (kStp k) _ rfl) (by rw [hl1, ← HM.out]; omega) (HJ.out.alloc (Nat.le_refl _) _).2.2 ?_; intro a2 l2 c2' w2 hr2 hg2; have HJ2 := hidden ((HJ.out.alloc (Nat.le_refl _) _).grown (Nat.le_refl _) hr2 hg2); clear hr2 hg2)
      go_ret
      exact ⟨_, rfl, HJ2.out.1, HJ2.out.2.1⟩

/-! ### Cat and Alt -/
def catV (LL : List (List Stp)) : List Stp := if LL.length = 0 then [kStp 2] else jn 3 LL
def altV (LL : List (List Stp)) : List Stp := if LL.length = 0 then [kStp 1] else jn 4 LL
theorem slxs_form {C : Nat → Prop} {w : World} {v : Value} {LL : List (List Stp)} (h : SlXs C w v LL) : ∃ a cap, v = .slice a LL.length cap := by
  obtain ⟨a, cap, rfl, _⟩ := h
  exact ⟨a, cap, rfl⟩
set_option maxRecDepth 100000 in
theorem rcat_calls {C : Nat → Prop} (w : World) (v : Value) (LL : List (List Stp)) (h : SlXs C w v LL) (hC : ∀ b, C b → b < w.heap.size) (hsz : (catV LL).length ≤ 1000000) :
    Calls Tryd.prog 26 #[v] w (RetX w (catV LL)) := by
  unfold catV at *
  by_cases h0 : LL.length = 0
  · have H := hidden (rempty_rx w)
    obtain ⟨a, cap, rfl⟩ := slxs_form h
    clear h hC hsz
    rw [if_pos h0]
    go_enter Tryd.func26, Tryd.ntmps26
    go_wp2_with fail
    refine H.out.mono ?_
    rintro e w' ⟨u, rfl, hr, hb⟩
    go_wp2
    go_ret
    exact ⟨_, rfl, hr, hb⟩
  · rw [if_neg h0] at hsz ⊢
    have H := hidden (many_calls w 3 v LL h hC hsz)
    obtain ⟨a, cap, rfl⟩ := slxs_form h
    have h0' : ((LL.length : Int) == 0) = false := by simp; intro e; exact h0 (by rw [e]; rfl)
    clear h hC hsz
    go_enter Tryd.func26, Tryd.ntmps26
    go_wp2_with fail
    refine H.out.mono ?_
    rintro e w' ⟨u, rfl, hr, hb⟩
    go_wp2
    go_ret
    exact ⟨_, rfl, hr, hb⟩
set_option maxRecDepth 100000 in
theorem ralt_calls {C : Nat → Prop} (w : World) (v : Value) (LL : List (List Stp)) (h : SlXs C w v LL) (hC : ∀ b, C b → b < w.heap.size) (hsz : (altV LL).length ≤ 1000000) :
    Calls Tryd.prog 27 #[v] w (RetX w (altV LL)) := by
  unfold altV at *
  by_cases h0 : LL.length = 0
  · have H := hidden (rset_rx 0 0 0 0 w)
    obtain ⟨a, cap, rfl⟩ := slxs_form h
    clear h hC hsz
    rw [if_pos h0]
    go_enter Tryd.func27, Tryd.ntmps27
    go_wp2_with fail
    refine H.out.mono ?_
    rintro e w' ⟨u, rfl, hr, hb⟩
    go_wp2
    go_ret
    exact ⟨_, rfl, hr, hb⟩
  · rw [if_neg h0] at hsz ⊢
    have H := hidden (many_calls w 4 v LL h hC hsz)
    obtain ⟨a, cap, rfl⟩ := slxs_form h
    have h0' : ((LL.length : Int) == 0) = false := by simp; intro e; exact h0 (by rw [e]; rfl)
    clear h hC hsz
    go_enter Tryd.func27, Tryd.ntmps27
    go_wp2_with fail
    refine H.out.mono ?_
    rintro e w' ⟨u, rfl, hr, hb⟩
    go_wp2
    go_ret
    exact ⟨_, rfl, hr, hb⟩
end Go.Proofs.YtbokhofdgdcpdaaDoor

/- Contracts of the set functions without a search: Has, One, with, And, Minus, Not. -/
namespace Go.Proofs.YtbokhofdgdcpdaaDoor
open Go.RowKit

theorem has_res (f : Nat → Bool) (n : Int) (h0 : 0 ≤ n) : ((word f (n / 64).toNat : Int) / 2 ^ (n % 64).toNat % 2 == 1) = f n.toNat := by
  obtain ⟨k, rfl⟩ := Int.eq_ofNat_of_zero_le h0
  have e1 : ((k : Int) / 64).toNat = k / 64 := by omega
  have e2 : ((k : Int) % 64).toNat = k % 64 := by omega
  rw [e1, e2, word_has f _ _ (Nat.mod_lt _ (by decide)), Nat.div_add_mod, Int.toNat_natCast]
  cases f k <;> rfl
theorem has_res1 (f : Nat → Bool) (n : Int) (h0 : 0 ≤ n) : (bits .and .u64 ((word f (n / 64).toNat : Int) / 2 ^ (n % 64).toNat) 1 == 1) = f n.toNat := by
  rw [← has_res f n h0]
  have hw := word_lt f (n / 64).toNat
  generalize word f (n / 64).toNat = x at *
  have e : (x : Int) / 2 ^ (n % 64).toNat = ((x / 2 ^ (n % 64).toNat : Nat) : Int) := by simp
  have hle : x / 2 ^ (n % 64).toNat ≤ x := Nat.div_le_self _ _
  rw [e, show (1 : Int) = ((1 : Nat) : Int) from rfl, u64_and_nat _ _ (by omega) (by decide), Nat.and_one_is_mod]
  simp
theorem has_res2 (f : Nat → Bool) (n : Int) (h0 : 0 ≤ n) : (((word f (n / 64).toNat : Int) / 2 ^ (n % 64).toNat).tmod 2 == 1) = f n.toNat := by
  rw [← has_res f n h0]
  have e : (word f (n / 64).toNat : Int) / 2 ^ (n % 64).toNat = ((word f (n / 64).toNat / 2 ^ (n % 64).toNat : Nat) : Int) := by simp
  rw [e, Int.tmod_eq_emod_of_nonneg (Int.natCast_nonneg _)]

theorem rhas_calls (f : Nat → Bool) (n : Int) (w : World) (h0 : 0 ≤ n) (h1 : n < 256) :
    Calls Tryd.prog 23 #[(.agg #[.int .u64 (word (f) 0), .int .u64 (word (f) 1), .int .u64 (word (f) 2), .int .u64 (word (f) 3)]), .int .u8 n] w fun e w' => e = .returned (.bool (f n.toNat)) ∧ Below w.heap.size w w' := by
  have hx := at4 (word f) (n / 64).toNat (by omega)
  go_enter Tryd.func23, Tryd.ntmps23
  go_wp2
  go_ret
  exact ⟨ret_b (has_res2 f n h0), (Below.refl _ _).alloc (Nat.le_refl _) _⟩

/-- a set as it is returned, out of its four words -/
theorem ret_set {a b c d : Int} {f : Nat → Bool} (ha : a = word f 0) (hb : b = word f 1) (hc : c = word f 2) (hd : d = word f 3) :
    Ending.returned (.agg #[.int .u64 a, .int .u64 b, .int .u64 c, .int .u64 d]) = .returned (.agg #[.int .u64 (word (f) 0), .int .u64 (word (f) 1), .int .u64 (word (f) 2), .int .u64 (word (f) 3)]) := by
  rw [ha, hb, hc, hd]

theorem or_other (f : Nat → Bool) (n i : Nat) (h : n / 64 ≠ i) : word f i = word (fOr f (fOne n)) i :=
  word_congr i fun j hj => by
    simp only [fOr, fOne]
    have : decide (64 * i + j = n) = false := by simp; omega
    rw [this, Bool.or_false]

theorem with_calls (f : Nat → Bool) (n : Int) (w : World) (h0 : 0 ≤ n) (h1 : n < 256) :
    Calls Tryd.prog 114 #[(.agg #[.int .u64 (word (f) 0), .int .u64 (word (f) 1), .int .u64 (word (f) 2), .int .u64 (word (f) 3)]), .int .i64 n] w fun e w' => e = .returned (.agg #[.int .u64 (word (fOr f (fOne n.toNat)) 0), .int .u64 (word (fOr f (fOne n.toNat)) 1), .int .u64 (word (fOr f (fOne n.toNat)) 2), .int .u64 (word (fOr f (fOne n.toNat)) 3)]) ∧ Below w.heap.size w w' := by
  have HB := hidden (pow_bit n h0)
  have HO := hidden (or_other f n.toNat)
  have HW := hidden (word_or f (fOne n.toNat))
  have hc : (n / 64).toNat = 0 ∨ (n / 64).toNat = 1 ∨ (n / 64).toNat = 2 ∨ (n / 64).toNat = 3 := by omega
  rcases hc with hq | hq | hq | hq
  all_goals
    go_enter Tryd.func114, Tryd.ntmps114
    go_wp2
    go_returns
    refine ⟨ret_set ?_ ?_ ?_ ?_, by go_grown⟩
  all_goals first | (rw [← HO.out _ (by omega)]; done) | exact congrArg _ (HO.out _ (by omega)) | (rw [HB.out _ (show n.toNat / 64 = 0 by omega)]; exact HW.out _) | (rw [HB.out _ (show n.toNat / 64 = 1 by omega)]; exact HW.out _) | (rw [HB.out _ (show n.toNat / 64 = 2 by omega)]; exact HW.out _) | (rw [HB.out _ (show n.toNat / 64 = 3 by omega)]; exact HW.out _)

end Go.Proofs.YtbokhofdgdcpdaaDoor

/- Contracts of the set functions that go over all bytes, or over a list of sets. -/
namespace Go.Proofs.YtbokhofdgdcpdaaDoor
open Go.RowKit

/-- block B is an array of four words, with f in it -/
def SetAt (w : World) (B : Nat) (f : Nat → Bool) : Prop := w.heap[B]? = some (.cells #[.int .u64 (word (f) 0), .int .u64 (word (f) 1), .int .u64 (word (f) 2), .int .u64 (word (f) 3)] 28 (0, 0))
theorem SetAt.facts {w : World} {B : Nat} {f : Nat → Bool} (h : SetAt w B f) :
    w.cell? ⟨B, 0, none⟩ = some (.int .u64 (word f 0)) ∧ w.cell? ⟨B, 1, none⟩ = some (.int .u64 (word f 1)) ∧ w.cell? ⟨B, 2, none⟩ = some (.int .u64 (word f 2)) ∧ w.cell? ⟨B, 3, none⟩ = some (.int .u64 (word f 3)) ∧
    w.frozen? ⟨B, 0, none⟩ = false ∧ w.frozen? ⟨B, 1, none⟩ = false ∧ w.frozen? ⟨B, 2, none⟩ = false ∧ w.frozen? ⟨B, 3, none⟩ = false :=
  ⟨cell_of_row w B 0 _ _ _ h, cell_of_row w B 1 _ _ _ h, cell_of_row w B 2 _ _ _ h, cell_of_row w B 3 _ _ _ h,
    frozen_of_row w B 0 _ _ h, frozen_of_row w B 1 _ _ h, frozen_of_row w B 2 _ _ h, frozen_of_row w B 3 _ _ h⟩
theorem SetAt.lt {w : World} {B : Nat} {f : Nat → Bool} (h : SetAt w B f) : B < w.heap.size := by
  rcases Nat.lt_or_ge B w.heap.size with hlt | hge
  · exact hlt
  · unfold SetAt at h
    rw [Array.getElem?_eq_none hge] at h
    cases h
theorem SetAt.below {w w' : World} {B : Nat} {f : Nat → Bool} (h : SetAt w B f) (hb : Below w.heap.size w w') : SetAt w' B f :=
  (hb.block B h.lt).trans h
theorem SetAt.new (w : World) (f : Nat → Bool) : SetAt (w.alloc (.cells #[.int .u64 (word (f) 0), .int .u64 (word (f) 1), .int .u64 (word (f) 2), .int .u64 (word (f) 3)] 28)) w.heap.size f := heap_alloc_new w _
theorem SetAt.stored {w : World} {B : Nat} {f g : Nat → Bool} (h : SetAt w B f) :
    SetAt ((((w.setCell ⟨B, 0, none⟩ (.int .u64 (word g 0))).setCell ⟨B, 1, none⟩ (.int .u64 (word g 1))).setCell ⟨B, 2, none⟩ (.int .u64 (word g 2))).setCell ⟨B, 3, none⟩ (.int .u64 (word g 3))) B g :=
  heap_setCell_same _ B 3 _ _ _ (heap_setCell_same _ B 2 _ _ _ (heap_setCell_same _ B 1 _ _ _ (heap_setCell_same _ B 0 _ _ _ h)))
theorem SetAt.congr {w : World} {B : Nat} {f g : Nat → Bool} (h : SetAt w B f) (e : ∀ n, n < 256 → f n = g n) : SetAt w B g := by
  unfold SetAt at h ⊢
  rw [h, word_ext e 0 (by decide), word_ext e 1 (by decide), word_ext e 2 (by decide), word_ext e 3 (by decide)]

theorem below_cells {B : Nat} {a w : World} (h : Below B a w) (b : Nat) (hb : B ≤ b) (v0 v1 v2 v3 : Value) :
    Below B a ((((w.setCell ⟨b, 0, none⟩ v0).setCell ⟨b, 1, none⟩ v1).setCell ⟨b, 2, none⟩ v2).setCell ⟨b, 3, none⟩ v3) :=
  (((h.setCell hb _).setCell hb _).setCell hb _).setCell hb _
theorem set_other {w : World} {B b : Nat} {f : Nat → Bool} (h : SetAt w B f) (hne : B ≠ b) (v0 v1 v2 v3 : Value) :
    SetAt ((((w.setCell ⟨b, 0, none⟩ v0).setCell ⟨b, 1, none⟩ v1).setCell ⟨b, 2, none⟩ v2).setCell ⟨b, 3, none⟩ v3) B f := by
  unfold SetAt at h ⊢
  rw [heap_setCell_other _ _ _ _ hne, heap_setCell_other _ _ _ _ hne, heap_setCell_other _ _ _ _ hne, heap_setCell_other _ _ _ _ hne, h]

theorem span_step (lo hi : Int) (k : Nat) (h : lo ≤ k ∧ (k : Int) ≤ hi) (n : Nat) : fOr (fUpto (fSpan lo hi) k) (fOne k) n = fUpto (fSpan lo hi) (k + 1) n := by
  simp only [fOr, fUpto, fSpan, fOne]
  rw [Bool.eq_iff_iff]
  simp
  omega
theorem span_skip (lo hi : Int) (k : Nat) (h : ¬ (lo ≤ k ∧ (k : Int) ≤ hi)) (n : Nat) : fUpto (fSpan lo hi) k n = fUpto (fSpan lo hi) (k + 1) n := by
  simp only [fUpto, fSpan]
  rw [Bool.eq_iff_iff]
  simp
  omega
theorem upto_all (f : Nat → Bool) (n : Nat) (h : n < 256) : fUpto f 256 n = f n := by simp [fUpto, h]
theorem upto_none (f : Nat → Bool) (n : Nat) : fUpto f 0 n = fNone n := by simp [fUpto, fNone]

theorem with_nat (f : Nat → Bool) (k : Nat) (w : World) (h : k < 256) :
    Calls Tryd.prog 114 #[(.agg #[.int .u64 (word (f) 0), .int .u64 (word (f) 1), .int .u64 (word (f) 2), .int .u64 (word (f) 3)]), .int .i64 k] w fun e w' => e = .returned (.agg #[.int .u64 (word (fOr f (fOne k)) 0), .int .u64 (word (fOr f (fOne k)) 1), .int .u64 (word (fOr f (fOne k)) 2), .int .u64 (word (fOr f (fOne k)) 3)]) ∧ Below w.heap.size w w' := by
  have := with_calls f k w (by omega) (by omega)
  rwa [Int.toNat_natCast] at this
theorem zeros (f : Nat → Bool) (hf : ∀ i, word f i = 0) : (#[.int .u64 0, .int .u64 0, .int .u64 0, .int .u64 0] : Array Value) = #[.int .u64 (word (f) 0), .int .u64 (word (f) 1), .int .u64 (word (f) 2), .int .u64 (word (f) 3)] := by
  simp [hf]
theorem zeros_none : (#[.int .u64 0, .int .u64 0, .int .u64 0, .int .u64 0] : Array Value) = #[.int .u64 (word (fNone) 0), .int .u64 (word (fNone) 1), .int .u64 (word (fNone) 2), .int .u64 (word (fNone) 3)] := zeros _ word_none
theorem new2 (w : World) : SetAt ((w.alloc (.cells #[.int .u64 0, .int .u64 0, .int .u64 0, .int .u64 0] 28)).alloc (.cells #[.int .u64 0, .int .u64 0, .int .u64 0, .int .u64 0] 28)) w.heap.size fNone ∧
    SetAt ((w.alloc (.cells #[.int .u64 0, .int .u64 0, .int .u64 0, .int .u64 0] 28)).alloc (.cells #[.int .u64 0, .int .u64 0, .int .u64 0, .int .u64 0] 28)) (w.heap.size + 1) fNone := by
  rw [zeros_none]
  exact ⟨heap_alloc2_old w _ _, heap_alloc2_new w _ _⟩

theorem ret_setAt {fn : Func} {R : Ending → World → Prop} {a : Act} {w : World} {B p : Nat} {f g : Nat → Bool} (h : fn.results = #[.cell p 28]) (hp : a.tmps.getD p undef = .pointer (some ⟨B, 0, none⟩))
    (hd : a.defers = []) (hS : SetAt w B f) (e : ∀ n, n < 256 → f n = g n) (hR : R (.returned (.agg #[.int .u64 (word (g) 0), .int .u64 (word (g) 1), .int .u64 (word (g) 2), .int .u64 (word (g) 3)])) w) : bodyPost Tryd.prog fn R .ret a w :=
  bodyPost_ret (results_cell_row h _ w B 28 _ (0, 0) _ hp (hS.congr e) Tryd.underlying28 rfl (by kernel_rfl)) hd hR

set_option maxRecDepth 100000 in
theorem rspan_calls (lo hi : Int) (w : World) :
    Calls Tryd.prog 113 #[.int .i64 lo, .int .i64 hi] w fun e w' => e = .returned (.agg #[.int .u64 (word (fSpan lo hi) 0), .int .u64 (word (fSpan lo hi) 1), .int .u64 (word (fSpan lo hi) 2), .int .u64 (word (fSpan lo hi) 3)]) ∧ Below w.heap.size w w' := by
  go_enter Tryd.func113, Tryd.ntmps113
  go_wp2
  go_loopw [6] (fun i wr => ∃ k : Nat, k ≤ 256 ∧ i = .int .i64 k ∧ SetAt wr w.heap.size fNone ∧ SetAt wr (w.heap.size + 1) (fUpto (fSpan lo hi) k) ∧ Below w.heap.size w wr) (fun i _ => 256 - (intOf i).toNat)
  case atStart =>
    exact ⟨0, by omega, rfl, (new2 w).1, (new2 w).2.congr fun n _ => (upto_none _ n).symm, by go_grown⟩
  case round =>
    obtain ⟨k, hk, rfl, hA, hS, hb⟩ := hrel
    have HS := hidden hS
    have HA := hidden hA
    by_cases hlt : k < 256
    · obtain ⟨c0, c1, c2, c3, f0, f1, f2, f3⟩ := hS.facts
      clear hS hA
      by_cases hin : lo ≤ k ∧ (k : Int) ≤ hi
      · have hin1 := hin.1
        have hin2 := hin.2
        go_wp2_with fail
        refine (with_nat _ _ _ (by omega)).mono ?_
        rintro e w' ⟨rfl, hb1⟩
        have hS' := HS.out.below hb1
        have hA' := HA.out.below hb1
        clear c0 c1 c2 c3 f0 f1 f2 f3
        obtain ⟨c0, c1, c2, c3, f0, f1, f2, f3⟩ := hS'.facts
        have HS' := hidden hS'
        have HA' := hidden hA'
        clear hS' hA'
        go_wp2
        go_roundw
        case rel =>
          exact ⟨k + 1, by omega, by go_num, set_other HA'.out (by omega) _ _ _ _, HS'.out.stored.congr fun n _ => span_step lo hi k hin n,
            below_cells (below_then hb (by have := hb.size; omega) hb1) _ (by omega) _ _ _ _⟩
        case measure => simp [intOf]; omega
      · go_wp2
        all_goals
          refine ⟨⟨k + 1, by omega, by go_num, HA.out, HS.out.congr fun n _ => span_skip lo hi k hin n, hb⟩, by simp [intOf]; omega⟩
    · obtain ⟨c0, c1, c2, c3, f0, f1, f2, f3⟩ := hS.facts
      obtain ⟨d0, d1, d2, d3, g0, g1, g2, g3⟩ := hA.facts
      clear hS hA
      have e : k = 256 := by omega
      have HE := hidden e
      clear e
      go_wp2
      refine ret_setAt Tryd.results113 rfl rfl HA.out.stored (fun n hn => ?_) ⟨rfl, below_cells hb _ (by omega) _ _ _ _⟩
      rw [HE.out, upto_all _ n hn]
end Go.Proofs.YtbokhofdgdcpdaaDoor
