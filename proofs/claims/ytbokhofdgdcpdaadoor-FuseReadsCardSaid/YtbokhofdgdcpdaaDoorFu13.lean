/- SpNum, SpOps, BitMath, put together. -/
import Derived.Test.YtbokhofdgdcpdaaDoorFu12
import Derived.Test.YtbokhofdgdcpdaaDoorFu01
import Derived.Handy
/- Contract of the reference's number: how many spots stand before a place. -/
namespace Go.Proofs.YtbokhofdgdcpdaaDoor
open Go.RowKit Go.Lib Go.Joins

/-- how many of the first k steps are sets -/
def cnt (L : List Stp) (k : Nat) : Nat := (sets (L.take k)).length
theorem cnt_take {L : List Stp} {k : Nat} (h : k < L.length) : cnt L (k + 1) = if (L.getD k default).k = 1 then cnt L k + 1 else cnt L k := by
  unfold cnt
  rw [sets_take h]
  by_cases hk : (L.getD k default).k = 1
  · rw [if_pos hk, if_pos hk, List.length_append]; rfl
  · rw [if_neg hk, if_neg hk]
theorem cnt_le (L : List Stp) (k : Nat) : cnt L k ≤ k := sets_len L k
theorem cnt_zero (L : List Stp) : cnt L 0 = 0 := by unfold cnt sets; rfl
attribute [local irreducible] cnt
set_option maxHeartbeats 4000000 in
set_option maxRecDepth 100000 in
theorem number_calls {C : Nat → Prop} {v : Value} {L : List Stp} {w : World} {i : Nat} (h : SlX C w v L) (hi : i ≤ L.length) (hl : L.length ≤ 512) : Calls Tryd.prog 76 #[v, .int .i64 i] w fun e w' => e = .returned (.int .i64 (cnt L i)) ∧ w = w' := by
  obtain ⟨a, cap, rfl, hcap, hmax, _, hS⟩ := h
  have HC := hidden (fun (hp : 0 < L.length) => hS.2 hp)
  have HT := hidden (fun k (h : k < L.length) => cnt_take h)
  have HLN := hidden (fun k => cnt_le L k)
  have H0 := hidden (cnt_zero L)
  obtain ⟨n, hn⟩ : ∃ n, n = L.length := ⟨_, rfl⟩
  rw [← hn] at HC HT hcap hl hi ⊢
  unfold maxLen at hmax
  clear hS hn
  go_enter Tryd.func76, Tryd.ntmps76
  go_wp2
  go_loopw [5, 6] (fun c j wr => ∃ k : Nat, k ≤ i ∧ c = .int .i64 (cnt L k : Nat) ∧ j = .int .i64 k ∧ w = wr) (fun _ j _ => i - (intOf j).toNat)
  case atStart => exact ⟨0, by omega, by rw [H0.out]; rfl, rfl, rfl⟩
  case round =>
    obtain ⟨k, hk, rfl, rfl, rfl⟩ := hrel
    by_cases hlt : k < i
    · obtain ⟨b, off, rfl, hCb, hc⟩ := HC.out (by omega)
      obtain ⟨c0, c1, c2, c3, c4⟩ := hc k (by omega)
      have HTK := hidden (HT.out k (by omega))
      have hle := HLN.out k
      generalize hst : L.getD k default = s at *
      obtain ⟨sk, sa, sb, sc, sd⟩ := s
      dsimp only at *
      have hkn : k < n := by omega
      have hw1 : IntKind.i64.wrap ((cnt L k : Int) + 1) = (cnt L k : Int) + 1 := by rw [IntKind.wrap_i64]; omega
      clear hst hc
      by_cases h1 : sk = 1
      · subst h1
        have HR := hidden (show cnt L (k + 1) = cnt L k + 1 by rw [HTK.out]; rfl)
        clear HTK
        go_wp2
        go_roundw
        case rel => exact ⟨k + 1, by omega, by rw [HR.out]; rfl, by go_num, by trivial⟩
        case measure => simp [intOf]; omega
      · have HR := hidden (show cnt L (k + 1) = cnt L k by rw [HTK.out, if_neg h1])
        have hq : (sk == 1) = false := by simpa using h1
        clear HTK
        go_wp2
        go_roundw
        case rel => exact ⟨k + 1, by omega, by rw [HR.out], by go_num, by trivial⟩
        case measure => simp [intOf]; omega
    · have e : k = i := by omega
      subst e
      go_wp2
      go_ret
      exact ⟨rfl, rfl⟩
end Go.Proofs.YtbokhofdgdcpdaaDoor

/- Contracts of the sets of spots: one, has, with. -/
namespace Go.Proofs.YtbokhofdgdcpdaaDoor
open Go.RowKit

theorem spot_res (f : Nat → Bool) (n : Int) (h0 : 0 ≤ n) : (bits .and .u64 ((word f (n / 64).toNat : Int) / 2 ^ (n % 64).toNat) 1 == 1) = f n.toNat := by
  obtain ⟨k, rfl⟩ := Int.eq_ofNat_of_zero_le h0
  have e1 : ((k : Int) / 64).toNat = k / 64 := by omega
  have e2 : ((k : Int) % 64).toNat = k % 64 := by omega
  have hw := word_has f (k / 64) (k % 64) (Nat.mod_lt _ (by decide))
  rw [e1, e2, Int.toNat_natCast]
  rw [Nat.div_add_mod] at hw
  have hl := word_lt f (k / 64)
  generalize word f (k / 64) = x at *
  have e : (x : Int) / 2 ^ (k % 64) = ((x / 2 ^ (k % 64) : Nat) : Int) := by simp
  have hle : x / 2 ^ (k % 64) ≤ x := Nat.div_le_self _ _
  rw [e] at hw ⊢
  rw [show (1 : Int) = ((1 : Nat) : Int) from rfl, u64_and_nat _ _ (by omega) (by decide), Nat.and_one_is_mod]
  have : x / 2 ^ (k % 64) % 2 < 2 := Nat.mod_lt _ (by decide)
  cases hf : f k <;> simp [hf] at hw ⊢ <;> omega
theorem ret_spots {a b c d : Int} {f : Nat → Bool} (ha : a = word f 0) (hb : b = word f 1) (hc : c = word f 2) (hd : d = word f 3) :
    Ending.returned (.agg #[.int .u64 a, .int .u64 b, .int .u64 c, .int .u64 d]) = .returned (.agg #[.int .u64 (word (f) 0), .int .u64 (word (f) 1), .int .u64 (word (f) 2), .int .u64 (word (f) 3)]) := by
  rw [ha, hb, hc, hd]
theorem spOne_calls (n : Int) (w : World) (h0 : 0 ≤ n) (h1 : n < 256) :
    Calls Tryd.prog 93 #[.int .i64 n] w fun e w' => e = .returned (.agg #[.int .u64 (word (fOne n.toNat) 0), .int .u64 (word (fOne n.toNat) 1), .int .u64 (word (fOne n.toNat) 2), .int .u64 (word (fOne n.toNat) 3)]) ∧ Below w.heap.size w w' := by
  have HB := hidden (pow_bit n h0)
  have HO := hidden (word_one_other n.toNat)
  have hc : (n / 64).toNat = 0 ∨ (n / 64).toNat = 1 ∨ (n / 64).toNat = 2 ∨ (n / 64).toNat = 3 := by omega
  rcases hc with hq | hq | hq | hq
  all_goals
    go_enter Tryd.func93, Tryd.ntmps93
    go_wp2
    go_returns
    refine ⟨ret_spots ?_ ?_ ?_ ?_, by go_grown⟩
  all_goals first | exact HB.out _ (by omega) | (rw [HO.out _ (by omega)]; rfl)
theorem spWith_calls (f g : Nat → Bool) (w : World) :
    Calls Tryd.prog 54 #[(.agg #[.int .u64 (word (f) 0), .int .u64 (word (f) 1), .int .u64 (word (f) 2), .int .u64 (word (f) 3)]), (.agg #[.int .u64 (word (g) 0), .int .u64 (word (g) 1), .int .u64 (word (g) 2), .int .u64 (word (g) 3)])] w fun e w' => e = .returned (.agg #[.int .u64 (word (fOr f g) 0), .int .u64 (word (fOr f g) 1), .int .u64 (word (fOr f g) 2), .int .u64 (word (fOr f g) 3)]) ∧ Below w.heap.size w w' := by
  have HW := hidden (word_or f g)
  go_enter Tryd.func54, Tryd.ntmps54
  go_wp2
  refine wp_loop_rounds 5 ?_
  iterate 4
    rw [rounds_succ]
    go_wp2
    first | go_region | skip
    go_wp2
  rw [rounds_succ]
  go_wp2
  go_returns
  exact ⟨ret_spots (HW.out 0) (HW.out 1) (HW.out 2) (HW.out 3), by go_grown⟩
def hasS (f : Nat → Bool) (n : Int) : Bool := decide (0 ≤ n) && (decide (n < 256) && f n.toNat)
theorem spHas_calls (f : Nat → Bool) (n : Int) (w : World) :
    Calls Tryd.prog 53 #[(.agg #[.int .u64 (word (f) 0), .int .u64 (word (f) 1), .int .u64 (word (f) 2), .int .u64 (word (f) 3)]), .int .i64 n] w fun e w' => e = .returned (.bool (hasS f n)) ∧ Below w.heap.size w w' := by
  by_cases h0 : 0 ≤ n
  · by_cases h1 : n < 256
    · have hx := at4 (word f) (n / 64).toNat (by omega)
      have HR := hidden (spot_res f n h0)
      have HE := hidden (show hasS f n = f n.toNat by simp [hasS, h0, h1])
      go_enter Tryd.func53, Tryd.ntmps53
      go_wp2
      go_ret
      exact ⟨ret_b (HR.out.trans HE.out.symm), by go_grown⟩
    · have HE := hidden (show hasS f n = false by simp [hasS, h1])
      go_enter Tryd.func53, Tryd.ntmps53
      go_wp2
      go_ret
      exact ⟨ret_b HE.out.symm, by go_grown⟩
  · have HE := hidden (show hasS f n = false by simp [hasS, h0])
    go_enter Tryd.func53, Tryd.ntmps53
    go_wp2
    go_ret
    exact ⟨ret_b HE.out.symm, by go_grown⟩
end Go.Proofs.YtbokhofdgdcpdaaDoor

/- Counting the bits of a number, and walking over them: the mathematics, without the program. -/
namespace Go.Proofs.YtbokhofdgdcpdaaDoor

/-- how many of the last n bits of x are set -/
def pop : Nat → Nat → Nat
  | 0, _ => 0
  | n + 1, x => x % 2 + pop n (x / 2)
theorem pop8 (n x : Nat) : pop (n + 8) x = pop 8 (x % 256) + pop n (x / 256) := by
  have e : x / 256 = x / 2 / 2 / 2 / 2 / 2 / 2 / 2 / 2 := by omega
  rw [e]
  simp only [pop]
  omega
theorem pop_le (n x : Nat) : pop n x ≤ n := by
  induction n generalizing x with
  | zero => simp [pop]
  | succ n ih => have := ih (x / 2); simp only [pop]; omega
theorem pop_filter (n x : Nat) : pop n x = ((List.range n).filter fun j => x.testBit j).length := by
  induction n generalizing x with
  | zero => rfl
  | succ n ih =>
    rw [List.range_succ_eq_map, List.filter_cons, pop, ih]
    have e : ((List.map Nat.succ (List.range n)).filter fun j => x.testBit j).length = ((List.range n).filter fun j => (x / 2).testBit j).length := by
      rw [List.filter_map, List.length_map]
      congr 1
      refine List.filter_congr fun j _ => ?_
      simp [Nat.testBit_succ]
    by_cases h : x % 2 = 1
    · have : x.testBit 0 = true := by simp [Nat.testBit_zero, h]
      rw [if_pos this, List.length_cons, e]
      omega
    · have : ¬ x.testBit 0 = true := by simp [Nat.testBit_zero]; omega
      rw [if_neg this, e]
      omega

/-! the three steps of the count, a byte at a time -/
theorem and_split (h m l c : Nat) (hl : l < 256) (hc : c < 256) : (256 * h + l) &&& (256 * m + c) = 256 * (h &&& m) + (l &&& c) := by
  apply Nat.eq_of_testBit_eq
  intro j
  have hlc : l &&& c < 2 ^ 8 := Nat.and_lt_two_pow l (n := 8) hc
  rw [Nat.testBit_and, show (256 : Nat) = 2 ^ 8 from rfl, Nat.testBit_two_pow_mul_add _ hl, Nat.testBit_two_pow_mul_add _ hc, Nat.testBit_two_pow_mul_add _ hlc]
  split <;> simp [Nat.testBit_and]

def mask (c : Nat) : Nat → Nat
  | 0 => 0
  | n + 1 => 256 * mask c n + c
def b1 (l : Nat) : Nat := (l / 2 &&& 85) + (l &&& 85)
def b2 (l : Nat) : Nat := (l / 4 &&& 51) + (l &&& 51)
def b3 (l : Nat) : Nat := (l / 16 + l) &&& 15
theorem low1 : ∀ (t : Fin 2) (l : Fin 256), ((l.val + 256 * t.val) / 2) % 256 &&& 85 = l.val / 2 &&& 85 := by decide +kernel
theorem low2 : ∀ (t : Fin 4) (l : Fin 256), ((l.val + 256 * t.val) / 4) % 256 &&& 51 = l.val / 4 &&& 51 := by decide +kernel
theorem low3 : ∀ (t : Fin 5) (l : Fin 69), (l.val / 16 + 16 * t.val + l.val) &&& 15 = b3 l.val := by decide +kernel
theorem bytes_ok : ∀ l : Fin 256, b1 l.val < 256 ∧ b2 (b1 l.val) < 69 ∧ b2 (b1 l.val) % 16 ≤ 4 ∧ b3 (b2 (b1 l.val)) = pop 8 l.val := by decide +kernel

/-- a list of bytes as a number, the least one first -/
def num : List Nat → Nat
  | [] => 0
  | l :: r => 256 * num r + l
theorem step1 : ∀ L : List Nat, (∀ l ∈ L, l < 256) → (num L / 2 &&& mask 85 L.length) + (num L &&& mask 85 L.length) = num (L.map b1)
  | [], _ => by simp [num, mask]
  | l :: r, h => by
    have hl := h l (List.mem_cons_self ..)
    have ih := step1 r fun x hx => h x (List.mem_cons_of_mem _ hx)
    have e : (256 * num r + l) / 2 = 256 * (num r / 2) + ((l + 256 * (num r % 2)) / 2) % 256 := by omega
    have e2 := low1 ⟨num r % 2, by omega⟩ ⟨l, hl⟩
    simp only [num, mask, List.length_cons, List.map_cons]
    rw [e, and_split _ _ _ _ (by omega) (by decide), and_split _ _ _ _ hl (by decide), e2, ← ih]
    simp only [b1]
    omega
theorem step2 : ∀ L : List Nat, (∀ l ∈ L, l < 256) → (num L / 4 &&& mask 51 L.length) + (num L &&& mask 51 L.length) = num (L.map b2)
  | [], _ => by simp [num, mask]
  | l :: r, h => by
    have hl := h l (List.mem_cons_self ..)
    have ih := step2 r fun x hx => h x (List.mem_cons_of_mem _ hx)
    have e : (256 * num r + l) / 4 = 256 * (num r / 4) + ((l + 256 * (num r % 4)) / 4) % 256 := by omega
    have e2 := low2 ⟨num r % 4, by omega⟩ ⟨l, hl⟩
    simp only [num, mask, List.length_cons, List.map_cons]
    rw [e, and_split _ _ _ _ (by omega) (by decide), and_split _ _ _ _ hl (by decide), e2, ← ih]
    simp only [b2]
    omega
theorem step3 : ∀ L : List Nat, (∀ l ∈ L, l < 69 ∧ l % 16 ≤ 4) → (num L / 16 + num L) &&& mask 15 L.length = num (L.map b3)
  | [], _ => by simp [num, mask]
  | l :: r, h => by
    have hl := h l (List.mem_cons_self ..)
    have ih := step3 r fun x hx => h x (List.mem_cons_of_mem _ hx)
    have hr : num r % 16 ≤ 4 := by
      cases r with
      | nil => simp [num]
      | cons a s =>
        have := (h a (by simp)).2
        simp only [num]
        omega
    have e : (256 * num r + l) / 16 + (256 * num r + l) = 256 * (num r / 16 + num r) + (l / 16 + 16 * (num r % 16) + l) := by omega
    have e2 := low3 ⟨num r % 16, by omega⟩ ⟨l, hl.1⟩
    simp only [num, mask, List.length_cons, List.map_cons]
    rw [e, and_split _ _ _ _ (by omega) (by decide), e2, ← ih]
/-- the bytes of a number of 64 bits -/
def bytes8 (x : Nat) : List Nat := [x % 256, x / 256 % 256, x / 65536 % 256, x / 16777216 % 256, x / 4294967296 % 256, x / 1099511627776 % 256, x / 281474976710656 % 256, x / 72057594037927936 % 256]
theorem num_bytes (x : Nat) (h : x < 18446744073709551616) : num (bytes8 x) = x := by
  simp only [bytes8, num]
  omega
theorem pop_bytes (x : Nat) : pop 64 x = ((bytes8 x).map (pop 8)).sum := by
  have e1 : x / 65536 = x / 256 / 256 := by omega
  have e2 : x / 16777216 = x / 256 / 256 / 256 := by omega
  have e3 : x / 4294967296 = x / 256 / 256 / 256 / 256 := by omega
  have e4 : x / 1099511627776 = x / 256 / 256 / 256 / 256 / 256 := by omega
  have e5 : x / 281474976710656 = x / 256 / 256 / 256 / 256 / 256 / 256 := by omega
  have e6 : x / 72057594037927936 = x / 256 / 256 / 256 / 256 / 256 / 256 / 256 := by omega
  have p1 := pop8 56 x
  have p2 := pop8 48 (x / 256)
  have p3 := pop8 40 (x / 256 / 256)
  have p4 := pop8 32 (x / 256 / 256 / 256)
  have p5 := pop8 24 (x / 256 / 256 / 256 / 256)
  have p6 := pop8 16 (x / 256 / 256 / 256 / 256 / 256)
  have p7 := pop8 8 (x / 256 / 256 / 256 / 256 / 256 / 256)
  have p8 := pop8 0 (x / 256 / 256 / 256 / 256 / 256 / 256 / 256)
  simp only [Nat.reduceAdd] at p1 p2 p3 p4 p5 p6 p7 p8
  rw [show ∀ y, pop 0 y = 0 from fun _ => rfl] at p8
  simp only [bytes8, e1, e2, e3, e4, e5, e6, List.map_cons, List.map_nil, List.sum_cons, List.sum_nil]
  omega
theorem masks : mask 85 8 = 6148914691236517205 ∧ mask 51 8 = 3689348814741910323 ∧ mask 15 8 = 1085102592571150095 := by decide
theorem three_steps (x : Nat) (h : x < 18446744073709551616) (y z : Nat) (hy : y = (x / 2 &&& 6148914691236517205) + (x &&& 6148914691236517205)) (hz : z = (y / 4 &&& 3689348814741910323) + (y &&& 3689348814741910323)) :
    y < 18446744073709551616 ∧ z < 4971973988617027584 ∧ (z / 16 + z) &&& 1085102592571150095 = num ((bytes8 x).map (pop 8)) := by
  have hb : ∀ l ∈ bytes8 x, l < 256 := by
    intro l hl
    simp only [bytes8, List.mem_cons, List.not_mem_nil, or_false] at hl
    omega
  have h1 := step1 (bytes8 x) hb
  rw [num_bytes x h, show (bytes8 x).length = 8 from rfl, masks.1] at h1
  rw [h1] at hy
  have hb1 : ∀ l ∈ (bytes8 x).map b1, l < 256 := by
    intro l hl
    obtain ⟨a, ha, rfl⟩ := List.mem_map.1 hl
    exact (bytes_ok ⟨a, hb a ha⟩).1
  have h2 := step2 ((bytes8 x).map b1) hb1
  rw [show ((bytes8 x).map b1).length = 8 from rfl, masks.2.1, ← hy, ← hz] at h2
  have hb2 : ∀ l ∈ ((bytes8 x).map b1).map b2, l < 69 ∧ l % 16 ≤ 4 := by
    intro l hl
    obtain ⟨c, hc, rfl⟩ := List.mem_map.1 hl
    obtain ⟨a, ha, rfl⟩ := List.mem_map.1 hc
    have := bytes_ok ⟨a, hb a ha⟩
    exact ⟨this.2.1, this.2.2.1⟩
  have h3 := step3 (((bytes8 x).map b1).map b2) hb2
  rw [show (((bytes8 x).map b1).map b2).length = 8 from rfl, masks.2.2, ← h2] at h3
  refine ⟨?_, ?_, ?_⟩
  · rw [hy]
    simp only [bytes8, List.map_cons, List.map_nil, List.forall_mem_cons] at hb1 ⊢
    simp only [num]
    omega
  · rw [h2]
    simp only [bytes8, List.map_cons, List.map_nil, List.forall_mem_cons] at hb2 ⊢
    simp only [num]
    omega
  · rw [h3, List.map_map, List.map_map]
    congr 1
    refine List.map_congr_left fun a ha => ?_
    exact (bytes_ok ⟨a, hb a ha⟩).2.2.2
theorem div_of {y R Q m : Nat} (e : y = R + m * Q) (h : R < m) : y / m = Q := by
  rw [e, Nat.add_mul_div_left _ _ (by omega), Nat.div_eq_of_lt h, Nat.zero_add]
/-- the sum of the bytes, by three shifts -/
theorem fold_sum (p : List Nat) (hp : p.length = 8) (hb : ∀ l ∈ p, l ≤ 8) (y z u : Nat) (hy : y = num p + num p / 256) (hz : z = (y + y / 65536) % 18446744073709551616) (hu : u = (z + z / 4294967296) % 18446744073709551616) :
    num p < 18446744073709551616 ∧ y < 18446744073709551616 ∧ u % 128 = p.sum := by
  match p, hp with
  | [p0, p1, p2, p3, p4, p5, p6, p7], _ =>
    simp only [List.forall_mem_cons] at hb
    obtain ⟨h0, h1, h2, h3, h4, h5, h6, h7, _⟩ := hb
    have e0 : num [p0, p1, p2, p3, p4, p5, p6, p7] = p0 + 256 * (p1 + 256 * p2 + 65536 * p3 + 16777216 * p4 + 4294967296 * p5 + 1099511627776 * p6 + 281474976710656 * p7) := by
      simp only [num]
      omega
    have q0 := div_of e0 (by omega)
    rw [q0, e0] at hy
    rw [e0]
    clear e0 q0
    have e1 : y = ((p0 + p1) + 256 * (p1 + p2)) + 65536 * ((p2 + p3) + 256 * (p3 + p4) + 65536 * (p4 + p5) + 16777216 * (p5 + p6) + 4294967296 * (p6 + p7) + 1099511627776 * p7) := by omega
    clear hy
    have q1 := div_of e1 (by omega)
    rw [q1, Nat.mod_eq_of_lt (by omega)] at hz
    have e2 : z = ((p0 + p1 + p2 + p3) + 256 * (p1 + p2 + p3 + p4) + 65536 * (p2 + p3 + p4 + p5) + 16777216 * (p3 + p4 + p5 + p6)) + 4294967296 * ((p4 + p5 + p6 + p7) + 256 * (p5 + p6 + p7) + 65536 * (p6 + p7) + 16777216 * p7) := by omega
    have hy' : y < 18446744073709551616 := by omega
    refine ⟨by omega, hy', ?_⟩
    clear hz q1 e1 hy'
    have q2 := div_of e2 (by omega)
    rw [q2, Nat.mod_eq_of_lt (by omega)] at hu
    clear q2
    have e3 : u = (p0 + p1 + p2 + p3 + p4 + p5 + p6 + p7) + 128 * (2 * ((p1 + p2 + p3 + p4) + 256 * (p2 + p3 + p4 + p5) + 65536 * (p3 + p4 + p5 + p6)) + 33554432 * ((p4 + p5 + p6 + p7) + 256 * (p5 + p6 + p7) + 65536 * (p6 + p7) + 16777216 * p7) + 2 * ((p5 + p6 + p7) + 256 * (p6 + p7) + 65536 * p7)) := by omega
    clear hu e2
    have e4 : u % 128 = p0 + p1 + p2 + p3 + p4 + p5 + p6 + p7 := by omega
    rw [e4]
    simp only [List.sum_cons, List.sum_nil]
    omega
end Go.Proofs.YtbokhofdgdcpdaaDoor
