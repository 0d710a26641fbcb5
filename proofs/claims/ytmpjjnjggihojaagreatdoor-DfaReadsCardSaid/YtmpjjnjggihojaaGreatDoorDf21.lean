/- FaTabs, FuRun, KiHas, KiRSpl, put together. -/
import Derived.Test.YtmpjjnjggihojaaGreatDoorDf20
import Derived.Test.YtmpjjnjggihojaaGreatDoorDf02
import Derived.Test.YtmpjjnjggihojaaGreatDoorDf01
import Derived.Test.YtmpjjnjggihojaaGreatDoorDf03
/- Contracts of the reference's tables: same, set, both. -/
namespace Go.Proofs.YtmpjjnjggihojaaGreatDoor
open Go.RowKit Go.Lib Go.Joins

/-- the part of a table ahead of a place -/
def mTo (M : Nat → Nat → Bool) (p q a b : Nat) : Bool := (decide (a < p) || (decide (a = p) && decide (b < q))) && M a b
theorem mTo_none (N : Nat) (M : Nat → Nat → Bool) : Alike N (fun _ _ => false) (mTo M 0 0) := fun a b _ _ => by simp [mTo]
theorem mTo_put {N : Nat} {M : Nat → Nat → Bool} {p q : Nat} {x : Bool} (hx : x = M p q) : Alike N (fun a b => if a = p ∧ b = q then x else mTo M p q a b) (mTo M p (q + 1)) := fun a b _ _ => by
  subst hx
  simp only [mTo]
  by_cases e : a = p
  · subst e
    by_cases e2 : b = q
    · subst e2; simp
    · have h1 : decide (b < q) = decide (b < q + 1) := by simp; omega
      simp [e2, h1]
  · simp [e]
theorem mTo_row {N : Nat} {M : Nat → Nat → Bool} {p : Nat} : Alike N (mTo M p N) (mTo M (p + 1) 0) := fun a b _ hb => by
  simp only [mTo]
  by_cases e : a < p
  · simp [e, show a < p + 1 by omega]
  · by_cases e2 : a = p
    · subst e2; simp [hb]
    · simp [e, e2, show ¬ a < p + 1 by omega]
theorem mTo_all {N : Nat} {M : Nat → Nat → Bool} : Alike N (mTo M N 0) M := fun a b ha _ => by simp [mTo, ha]

set_option maxHeartbeats 2000000 in
set_option maxRecDepth 100000 in
theorem msame_calls (s : ByteArray) (w : World) (hs : s.size ≤ 1000) : Calls Tryz.prog 83 #[.string s] w (RetM w (s.size + 1) mSame) := by
  have H0 := hidden (none_calls s w hs)
  obtain ⟨n, hn⟩ : ∃ n, n = s.size := ⟨_, rfl⟩
  rw [← hn] at hs H0 ⊢
  obtain ⟨N, hN⟩ : ∃ N, N = n + 1 := ⟨_, rfl⟩
  rw [← hN] at H0 ⊢
  have hnn : s.size = n := hn.symm
  have hNle : N ≤ 1001 := by omega
  have HN := hidden hN
  clear hN hn
  go_enter Tryz.func83, Tryz.ntmps83
  go_wp2_with fail
  refine H0.out.mono ?_
  rintro e w1 ⟨g, cap, rs, rfl, ht, hb⟩
  have HT := hidden ht
  have HB := hidden hb
  clear ht hb
  go_wp2
  go_loopw [4] (fun i wr => ∃ j : Nat, j ≤ N ∧ i = .int .i64 j ∧ TabW wr w.heap.size g cap rs N (mTo mSame j 0) ∧ Below w.heap.size w wr) (fun i _ => N - (intOf i).toNat)
  case atStart => exact ⟨0, by omega, rfl, HT.out.congr (mTo_none N _), HB.out⟩
  case round =>
    obtain ⟨j, hj, rfl, ht, hb⟩ := hrel
    have HT1 := hidden ht
    have HB1 := hidden hb
    clear ht hb
    by_cases hlt : j < N
    · have hNn := HN.out
      have hd : decide ((j : Int) ≤ n) = true := decide_eq_true (by omega)
      have hd' : decide (j ≤ n) = true := decide_eq_true (by omega)
      have c1 := HT1.out.cell1 hlt
      have c2 := HT1.out.cell2 hlt hlt
      have f2 := HT1.out.frozen2 j hlt
      have hset := (HT1.out.set hlt j true).congr (M' := mTo mSame (j + 1) 0) (fun a b ha hb' => by
        simp only [mTo, mSame]
        by_cases e : a = j
        · subst e
          by_cases e2 : b = a
          · subst e2; simp
          · have : ¬ a = b := fun h => e2 h.symm
            simp [e2, this]
        · have : decide (a < j) = decide (a < j + 1) := by simp; omega
          simp [e, this])
      have HS := hidden hset
      have hlow := HT1.out.low j hlt
      have HB2 := hidden (HB1.out.setCell (p := ⟨rs.getD j 0, j, none⟩) hlow (.bool true))
      generalize rs.getD j 0 = c at *
      clear hset hNn
      go_wp2
      go_roundw
      case rel => exact ⟨j + 1, by omega, by go_num, HS.out, HB2.out⟩
      case measure => simp [intOf]; omega
    · obtain rfl : j = N := by omega
      have hNn := HN.out
      have hd : decide ((j : Int) ≤ n) = false := decide_eq_false (by omega)
      have hd' : decide (j ≤ n) = false := decide_eq_false (by omega)
      clear hNn
      go_wp2
      go_ret
      exact ⟨g, cap, rs, rfl, HT1.out.congr mTo_all, HB1.out⟩

/-- the bytes of a text -/
def byN (s : ByteArray) : List Nat := s.data.toList.map UInt8.toNat
theorem byN_len (s : ByteArray) : (byN s).length = s.size := by simp [byN]
theorem byN_at (s : ByteArray) (i : Nat) (h : i < s.size) : (byN s).getD i 0 = s[i].toNat := by
  have h' : i < s.data.size := h
  have e : s.data[i]? = some s.data[i] := by simp
  simp only [byN, List.getD_eq_getElem?_getD, List.getElem?_map, Array.getElem?_toList, e]
  rfl
theorem byN_lt (s : ByteArray) : ∀ c ∈ byN s, c < 256 := fun c hc => by
  simp only [byN, List.mem_map] at hc
  obtain ⟨b, _, rfl⟩ := hc
  exact UInt8.toNat_lt b

set_option maxHeartbeats 4000000 in
set_option maxRecDepth 100000 in
theorem mset_calls (f : Nat → Bool) (s : ByteArray) (w : World) (hs : s.size ≤ 1000) : Calls Tryz.prog 84 #[(.agg #[.int .u64 (word (f) 0), .int .u64 (word (f) 1), .int .u64 (word (f) 2), .int .u64 (word (f) 3)]), .string s] w (RetM w (s.size + 1) (mSet f (byN s))) := by
  have H0 := hidden (none_calls s (w.alloc (.cells #[.int .u64 (word (f) 0), .int .u64 (word (f) 1), .int .u64 (word (f) 2), .int .u64 (word (f) 3)] 74)) hs)
  have HL := hidden (byN_len s)
  have HA := hidden (byN_at s)
  have hSA := SetAt.new w f
  obtain ⟨N, hN⟩ : ∃ N, N = s.size + 1 := ⟨_, rfl⟩
  rw [← hN] at H0 ⊢
  have hNle : N ≤ 1001 := by omega
  have HN := hidden hN
  have HSA := hidden hSA
  obtain ⟨M, hM⟩ : ∃ M, M = mSet f (byN s) := ⟨_, rfl⟩
  rw [← hM]
  have HM := hidden hM
  clear hN hM hSA
  go_enter Tryz.func84, Tryz.ntmps84
  go_wp2_with fail
  refine H0.out.mono ?_
  rintro e w1 ⟨g, cap, rs, rfl, ht, hb⟩
  have hbase : (w.alloc (.cells #[.int .u64 (word (f) 0), .int .u64 (word (f) 1), .int .u64 (word (f) 2), .int .u64 (word (f) 3)] 74)).heap.size = w.heap.size + 1 := by simp
  rw [hbase] at ht hb
  have HT := hidden ht
  have HB := hidden (below_then ((Below.refl w.heap.size w).alloc (Nat.le_refl _) (.cells #[.int .u64 (word (f) 0), .int .u64 (word (f) 1), .int .u64 (word (f) 2), .int .u64 (word (f) 3)] 74)) (by simp) (by rw [hbase]; exact hb))
  have HSB := hidden (show SetAt w1 w.heap.size f from (hb.block _ (Nat.lt_succ_self _)).trans HSA.out)
  clear ht hb hbase
  go_wp2
  go_loopw [6] (fun i wr => ∃ j : Nat, j ≤ s.size ∧ i = .int .i64 j ∧ TabW wr (w.heap.size + 1) g cap rs N (mTo M j 0) ∧ SetAt wr w.heap.size f ∧ Below w.heap.size w wr) (fun i _ => s.size - (intOf i).toNat)
  case atStart => exact ⟨0, by omega, rfl, HT.out.congr (mTo_none N _), HSB.out, HB.out⟩
  case round =>
    obtain ⟨j, hj, rfl, ht, hsa, hb⟩ := hrel
    have HT1 := hidden ht
    have HB1 := hidden hb
    have HS1 := hidden hsa
    clear ht hb hsa
    by_cases hlt : j < s.size
    · have hNn := HN.out
      obtain ⟨c0, c1, c2, c3, _, _, _, _⟩ := HS1.out.facts
      have hb256 : s[j].toNat < 256 := UInt8.toNat_lt _
      have HMJ := hidden (show M j (j + 1) = f (s[j]).toNat by
        rw [HM.out]
        simp only [mSet, HL.out, HA.out j hlt]
        simp [hlt])
      have HMO := hidden (show ∀ b, b ≠ j + 1 → M j b = false from fun b hb => by rw [HM.out]; simp [mSet, hb])
      obtain ⟨c, hc⟩ : ∃ c, c = rs.getD j 0 := ⟨_, rfl⟩
      obtain ⟨j1, hj1⟩ : ∃ j1, j1 = j + 1 := ⟨_, rfl⟩
      have d1 := HT1.out.cell1 (p := j) (by omega)
      rw [← hc] at d1
      have hw : IntKind.i64.wrap ((j : Int) + 1) = (j1 : Int) := by rw [IntKind.wrap_i64]; omega
      have hJ1 : j1 < N := by omega
      have hJ : j < N := by omega
      have hJle : j ≤ 1000 := by omega
      have key := hidden (show ∀ w2, Below wr.drew.heap.size wr.drew w2 → (w2.cell? ⟨g, j, none⟩ = some (.slice (some ⟨c, 0, none⟩) N N) ∧ (∃ u, w2.cell? ⟨c, j1, none⟩ = some u) ∧ w2.frozen? ⟨c, j1, none⟩ = false) ∧
          TabW (w2.setCell ⟨c, j1, none⟩ (.bool (f s[j].toNat))) (w.heap.size + 1) g cap rs N (mTo M j1 0) ∧ SetAt (w2.setCell ⟨c, j1, none⟩ (.bool (f s[j].toNat))) w.heap.size f ∧ Below w.heap.size w (w2.setCell ⟨c, j1, none⟩ (.bool (f s[j].toNat))) from fun w2 hb2 => by
        have t2 := HT1.out.drew.below hb2
        have s2 := SetAt.below (show SetAt wr.drew w.heap.size f from HS1.out) hb2
        have b2 := below_then HB1.out.drew (show w.heap.size ≤ wr.drew.heap.size from HB1.out.size) hb2
        have hjN : j < N := by omega
        have hlow := t2.low j hjN
        rw [hc]
        refine ⟨⟨t2.cell1 hjN, ⟨_, t2.cell2 hjN hJ1⟩, t2.frozen2 j1 hjN⟩, (t2.set hjN j1 _).congr fun a b ha hb => ?_, ?_, b2.setCell (p := ⟨rs.getD j 0, j1, none⟩) (show w.heap.size ≤ rs.getD j 0 by omega) _⟩
        · simp only [mTo]
          by_cases e : a = j
          · subst e
            have e3 : decide (a < j1) = true := decide_eq_true (by omega)
            by_cases e2 : b = j1
            · subst e2
              have := HMJ.out
              rw [← hj1] at this
              simp [e3, this]
            · have := HMO.out b (by omega)
              simp [e2, this]
          · have : decide (a < j) = decide (a < j1) := by simp; omega
            simp [e, this]
        · exact (heap_setCell_other w2 _ w.heap.size _ (show w.heap.size ≠ rs.getD j 0 by omega)).trans s2)
      have HC := hidden hc
      have HJ1 := hidden hj1
      clear hNn hc hj1
      go_wp2
      go_region_with (go_at_call 77; refine (rhas_nat f s[j].toNat _ hb256).mono ?_; rintro e w2 ⟨rfl, hb2⟩; have HK := hidden (key.out w2 hb2); obtain ⟨d2, ⟨u, d3⟩, d4⟩ := HK.out.1; clear hb2)
      all_goals
        go_wp2
        go_roundw
        case rel => exact ⟨j1, by have := HJ1.out; omega, by first | rfl | (rw [HJ1.out]; go_num), HK.out.2.1, HK.out.2.2.1, HK.out.2.2.2⟩
        case measure => have := HJ1.out; simp [intOf]; omega
    · obtain rfl : j = s.size := by omega
      have HE := hidden (fun a b (ha : a < s.size + 1) (hb : b < s.size + 1) => (show mTo M s.size 0 a b = M a b by
        simp only [mTo]
        by_cases e : a < s.size
        · simp [e]
        · rw [HM.out]
          simp [mSet, HL.out, e]))
      rw [← HN.out] at HE
      go_wp2
      go_ret
      refine ⟨g, cap, rs, rfl, ?_, HB1.out⟩
      exact (HT1.out.congr HE.out).lower (Nat.le_succ _)
end Go.Proofs.YtmpjjnjggihojaaGreatDoor

/- Contracts of Run and the reference's Run. -/
namespace Go.Proofs.YtmpjjnjggihojaaGreatDoor
open Go.RowKit Go.Lib Go.Joins
def runM (N : NetM) : List Nat → List Nat
  | [] => []
  | c :: r => r.foldl (fun l b => stepM N (spI l) b) (startM N c)
theorem runM_one (N : NetM) (c : Nat) : runM N [c] = startM N c := rfl
theorem runM_more (N : NetM) (W : List Nat) (k : Nat) (hk0 : 0 < k) (hk : k < W.length) : runM N (W.take (k + 1)) = stepM N (spI (runM N (W.take k))) (W.getD k 0) := by
  cases W with
  | nil => simp at hk
  | cons c r =>
    obtain ⟨j, rfl⟩ : ∃ j, k = j + 1 := ⟨k - 1, by omega⟩
    simp only [List.take_succ_cons, runM, List.length_cons] at *
    have e : (c :: r).getD (j + 1) 0 = r.getD j 0 := by simp
    rw [e, List.take_succ_eq_append_getElem (by omega), List.foldl_append, List.getD_eq_getElem?_getD, List.getElem?_eq_getElem (by omega)]
    rfl
theorem stepM_nil (N : NetM) (b : Nat) : stepM N [] b = [] := by
  unfold stepM
  split
  · unfold hits nextB
    simp
  · rfl
theorem runM_stop (N : NetM) (W : List Nat) (k : Nat) (hk0 : 0 < k) (h : runM N (W.take k) = []) : ∀ d, runM N (W.take (k + d)) = []
  | 0 => h
  | d + 1 => by
    by_cases hl : k + d < W.length
    · rw [← Nat.add_assoc, runM_more N W (k + d) (by omega) hl, runM_stop N W k hk0 h d, spI_nil, stepM_nil]
    · have := runM_stop N W k hk0 h d
      rw [List.take_of_length_le (by omega)] at this ⊢
      exact this
theorem stepM_len (N : NetM) (l : List Int) (b : Nat) : (stepM N l b).length ≤ N.sets.length := by
  unfold stepM
  split
  · exact hits_len _ _
  · simp
theorem startM_len (N : NetM) (b : Nat) : (startM N b).length ≤ N.sets.length := by
  unfold startM
  split
  · exact hits_len _ _
  · simp
theorem stepM_lt (N : NetM) (l : List Int) (b : Nat) : ∀ q ∈ stepM N l b, q < N.sets.length := by
  unfold stepM
  split
  · exact fun q hq => ((hits_mem _ _ _).1 hq).1
  · simp
theorem startM_lt (N : NetM) (b : Nat) : ∀ q ∈ startM N b, q < N.sets.length := by
  unfold startM
  split
  · exact fun q hq => ((hits_mem _ _ _).1 hq).1
  · simp
theorem runM_facts (N : NetM) (W : List Nat) : ∀ k, k ≤ W.length → (runM N (W.take k)).length ≤ N.sets.length ∧ ∀ q ∈ runM N (W.take k), q < N.sets.length
  | 0, _ => by simp [runM]
  | k + 1, hk => by
    by_cases h0 : k = 0
    · subst h0
      have e : W.take 1 = [W.getD 0 0] := by
        rw [List.take_succ_eq_append_getElem (by omega), List.getD_eq_getElem?_getD, List.getElem?_eq_getElem (by omega)]
        simp
      rw [e, runM_one]
      exact ⟨startM_len _ _, startM_lt _ _⟩
    · rw [runM_more N W k (by omega) (by omega)]
      exact ⟨stepM_len _ _ _, stepM_lt _ _ _⟩
theorem run_first (N : NetM) (W : List Nat) (h : 0 < W.length) : runM N (W.take (0 + 1)) = startM N (W.getD 0 0) := by
  have e : W.take 1 = [W.getD 0 0] := by
    rw [List.take_succ_eq_append_getElem (by omega), List.getD_eq_getElem?_getD, List.getElem?_eq_getElem (by omega)]
    simp
  rw [Nat.zero_add, e, runM_one]
end Go.Proofs.YtmpjjnjggihojaaGreatDoor

/- bset's Has at a byte; a set's block beside another one that is written. (Names of kind's own: elder folders have has_calls and SetAt.other in other places.) -/
namespace Go.Proofs.YtmpjjnjggihojaaGreatDoor
open Go.RowKit

theorem bhas_calls (f : Nat → Bool) (n : Int) (w : World) (h0 : 0 ≤ n) (h1 : n < 256) :
    Calls Tryz.prog 94 #[(.agg #[.int .u64 (word (f) 0), .int .u64 (word (f) 1), .int .u64 (word (f) 2), .int .u64 (word (f) 3)]), .int .u8 n] w fun e w' => e = .returned (.bool (f n.toNat)) ∧ Below w.heap.size w w' := by
  have hx := at4 (word f) (n / 64).toNat (by omega)
  go_enter Tryz.func94, Tryz.ntmps94
  go_wp2
  go_ret
  exact ⟨ret_b (has_res1 f n h0), (Below.refl _ _).alloc (Nat.le_refl _) _⟩
theorem bhas_nat (f : Nat → Bool) (k : Nat) (w : World) (h1 : k < 256) :
    Calls Tryz.prog 94 #[(.agg #[.int .u64 (word (f) 0), .int .u64 (word (f) 1), .int .u64 (word (f) 2), .int .u64 (word (f) 3)]), .int .u8 k] w fun e w' => e = .returned (.bool (f k)) ∧ Below w.heap.size w w' := by
  have := bhas_calls f k w (by omega) (by omega)
  rwa [Int.toNat_natCast] at this
theorem SetAt.otherK {w : World} {B b i : Nat} {f : Nat → Bool} (h : SetAt w B f) (hne : B ≠ b) (v : Value) : SetAt (w.setCell ⟨b, i, none⟩ v) B f := by
  unfold SetAt at h ⊢
  rw [heap_setCell_other _ _ _ _ hne, h]
end Go.Proofs.YtmpjjnjggihojaaGreatDoor

/- Contract of the reference's Split. -/
namespace Go.Proofs.YtmpjjnjggihojaaGreatDoor
open Go.RowKit

/-- the class of old and whether a set has it -/
def key2 (g : Nat → Nat) (f : Nat → Bool) (b : Nat) : Nat × Bool := (g b, f b)

end Go.Proofs.YtmpjjnjggihojaaGreatDoor
