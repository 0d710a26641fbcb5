/- FaSame, FuRMath, put together. -/
import Derived.Test.YtmpjjnjggihojaaGreatDoorDf39
import Derived.Test.YtmpjjnjggihojaaGreatDoorDf38
import Derived.Test.YtmpjjnjggihojaaGreatDoorDf20
/- Contracts of the reference's Says and SameInts. -/
namespace Go.Proofs.YtmpjjnjggihojaaGreatDoor
open Go.RowKit Go.Lib Go.Joins

/-- slice value v reads as these numbers -/
def RdI (w : World) (v : Value) (l : List Nat) : Prop := ∃ a cap, v = .slice a l.length cap ∧ (0 < l.length → ∃ b, a = some ⟨b, 0, none⟩ ∧ ∀ i, i < l.length → w.cell? ⟨b, i, none⟩ = some (.int .i64 ((l.getD i 0 : Nat) : Int)))
theorem RowI.reads {w : World} {base : Nat} {v : Value} {l : List Nat} (h : RowI w base v l) : RdI w v l := by
  rcases ownsRow_forms h with ⟨rfl, h0⟩ | ⟨g, cap, rfl⟩
  · exact ⟨none, 0, by rw [h0], fun hp => by omega⟩
  · refine ⟨some ⟨g, 0, none⟩, cap, rfl, fun _ => ⟨g, rfl, fun i hi => ?_⟩⟩
    rw [World.ownsRow.cellAt h i (by omega), List.getElem?_map, List.getD_eq_getElem?_getD, List.getElem?_eq_getElem hi]
    rfl
theorem RdI.below {w w' : World} {v : Value} {l : List Nat} (h : RdI w v l) (hb : Below w.heap.size w w') : RdI w' v l := by
  obtain ⟨a, cap, rfl, h1⟩ := h
  refine ⟨a, cap, rfl, fun hp => ?_⟩
  obtain ⟨b, e, hc⟩ := h1 hp
  exact ⟨b, e, fun i hi => (hb.cell (p := ⟨b, i, none⟩) (cell_lt (hc i hi))).trans (hc i hi)⟩
theorem lastIs_eq (l : List Nat) (n : Nat) : lastIs l n = (decide (0 < l.length) && (((l.getD (l.length - 1) 0 : Nat) : Int) == (n : Int))) := by
  unfold lastIs
  rw [List.getLast?_eq_getElem?]
  by_cases h : 0 < l.length
  · rw [List.getD_eq_getElem?_getD, List.getElem?_eq_getElem (by omega)]
    simp [h]
    rw [Bool.eq_iff_iff]
    simp
    omega
  · have : l = [] := List.eq_nil_of_length_eq_zero (by omega)
    subst this
    rfl
set_option maxHeartbeats 4000000 in
set_option maxRecDepth 100000 in
theorem rsays_calls {C : Nat → Prop} {v0 : Value} {L : List Stp} {w : World} (h : SlX C w v0 L) (hC : ∀ b, C b → b < w.heap.size) (s : ByteArray) (hs : s.size ≤ 1000) (hwd : ∀ s ∈ L, s.wide) :
    Calls Tryz.prog 23 #[v0, .string s] w fun e w' => e = .returned (.bool (lastIs (endsV L (byN s) 0) s.size)) ∧ Below w.heap.size w w' := by
  have H := hidden (rends_calls h hC s hs hwd 0)
  have HL := hidden (lastIs_eq (endsV L (byN s) 0) s.size)
  obtain ⟨av, cv, rfl, _⟩ := h
  have hlen : (endsV L (byN s) 0).length ≤ 1001 := by
    unfold endsV
    split
    · have := filter_len (lgB (treeE L) (byN s) (0 : Int).toNat) ((byN s).length + 1)
      rw [byN_len] at this ⊢
      omega
    · simp
  generalize endsV L (byN s) 0 = l at *
  go_enter Tryz.func23, Tryz.ntmps23
  go_wp2_with fail
  refine H.out.mono ?_
  rintro e w1 ⟨v, rfl, hv, hb⟩
  obtain ⟨a, cap, rfl, hc⟩ := hv.reads
  have HC := hidden hc
  have HB := hidden hb
  obtain ⟨n, hn⟩ : ∃ n, n = l.length := ⟨_, rfl⟩
  rw [← hn] at HL HC hlen ⊢
  clear hv hc hb hn
  by_cases hp : 0 < n
  · obtain ⟨b, rfl, hc⟩ := HC.out hp
    obtain ⟨m, hm⟩ : ∃ m, m = n - 1 := ⟨_, rfl⟩
    rw [← hm] at HL
    have hmn : m < n := by omega
    have c0 := hc m hmn
    have hw : IntKind.i64.wrap ((n : Int) - 1) = (m : Int) := by rw [IntKind.wrap_i64]; omega
    have hd : decide ((0 : Int) < n) = true := decide_eq_true (by omega)
    have hd2 : decide (0 < n) = true := decide_eq_true hp
    rw [hd2, Bool.true_and] at HL
    generalize l.getD m 0 = x at *
    clear hc hm hp
    go_wp2
    go_ret
    exact ⟨ret_b HL.out.symm, HB.out⟩
  · have hd : decide ((0 : Int) < n) = false := decide_eq_false (by omega)
    have hd2 : decide (0 < n) = false := decide_eq_false hp
    rw [hd2, Bool.false_and] at HL
    clear hp
    go_wp2
    go_ret
    exact ⟨ret_b HL.out.symm, HB.out⟩
end Go.Proofs.YtmpjjnjggihojaaGreatDoor

/- Which tokens a word ends in, and the first of them; without the program. -/
namespace Go.Proofs.YtmpjjnjggihojaaGreatDoor
open Go.RowKit Go.Lib Go.Joins
/-- those of some spots that are of a token -/
def ownM (N : NetM) (t : Nat) (R : List Nat) : List Nat := R.filter fun q => decide (N.of.getD q 0 = (t : Int))
/-- does the expression of a token say the word? -/
noncomputable def isT (T : List (List Stp)) (s : ByteArray) (t : Nat) : Bool := lastIs (endsV (T.getD t []) (byN s) 0) s.size
/-- the first of the first tokens that does -/
noncomputable def firstM (T : List (List Stp)) (s : ByteArray) : Nat → Int
  | 0 => -1
  | t + 1 => if (isT T s t && decide (firstM T s t < 0)) = true then (t : Int) else firstM T s t
theorem firstM_is (T : List (List Stp)) (s : ByteArray) : ∀ n, (firstM T s n = -1 ∧ ∀ t, t < n → isT T s t = false) ∨ ∃ t, t < n ∧ firstM T s n = (t : Int) ∧ isT T s t = true ∧ ∀ k, k < t → isT T s k = false
  | 0 => .inl ⟨rfl, fun t h => by omega⟩
  | n + 1 => by
    unfold firstM
    rcases firstM_is T s n with ⟨h1, h2⟩ | ⟨t, h1, h2, h3, h4⟩
    · by_cases h : isT T s n = true
      · rw [h, h1, if_pos (by decide)]
        exact .inr ⟨n, by omega, rfl, h, h2⟩
      · have h' : isT T s n = false := by simpa using h
        rw [h', if_neg (by simp)]
        refine .inl ⟨h1, fun t ht => ?_⟩
        by_cases e : t = n
        · rw [e]; exact h'
        · exact h2 t (by omega)
    · rw [h2, decide_eq_false (by omega), Bool.and_false, if_neg (by decide)]
      exact .inr ⟨t, by omega, rfl, h3, h4⟩
theorem firstM_lo (T : List (List Stp)) (s : ByteArray) (n : Nat) : -1 ≤ firstM T s n ∧ firstM T s n ≤ n := by
  rcases firstM_is T s n with ⟨h1, _⟩ | ⟨t, h1, h2, _⟩ <;> omega
section
variable {T : List (List Stp)} (hT : FewT T) (s : ByteArray) (hs : 0 < s.size)
include hT hs
theorem isT_iff {t : Nat} (ht : t < T.length) : isT T s t = true ↔ ∃ q, q ∈ runM (fuseM T) (byN s) ∧ (fuseM T).of.getD q 0 = (t : Int) ∧ lasB (fuseM T) (q : Int) = true := by
  have hl := byN_len s
  have hW : ∀ c ∈ byN s, c < 256 := fun c hc => by
    obtain ⟨u, _, rfl⟩ := List.mem_map.1 hc
    exact u.toNat_lt
  have hrun := fun q => run_come hT hT.len (byN s) hW (s.size - 1) (by omega) q
  rw [show s.size - 1 + 1 = s.size by omega, List.take_of_length_le (by omega), fuseK_all] at hrun
  have hat := fun k p hk hp => fuse_at T T.length k p hk hp
  rw [fuseK_all] at hat
  have hlen : (fuseM T).sets.length = offT T T.length := rfl
  have hlas : ∀ k p, k < T.length → p < cntT T k → (lasB (fuseM T) ((offT T k + p : Nat) : Int) = true ↔ p ∈ elems (prtL (T.getD k [])).last) := fun k p hk hp => by
    unfold lasB
    have hlt := offT_lt T hk hp
    rw [decide_eq_true (by omega), Bool.true_and, decide_eq_true (by omega), Bool.true_and, Int.toNat_natCast, (hat k p hk hp).last, decide_eq_true_eq, mem_spI]
  by_cases hz : (measV (T.getD t [])).2 = 0
  · obtain ⟨h512, hE⟩ := meas_expr hz
    obtain ⟨_, hok, hops⟩ := tree_of hE (hT.wide t)
    have hsay : isT T s t = true ↔ Lang (treeE (T.getD t [])) (byN s) := by
      unfold isT
      rw [show (0 : Int) = ((0 : Nat) : Int) from rfl, endsV_yes hz (Nat.zero_le _), ← byN_len, lastIs_iff, says_iff]
    rw [hsay, ← come_said hok (byN s)]
    constructor
    · rintro (⟨h0, _⟩ | ⟨p, h1, h2⟩)
      · omega
      · rw [hl] at h1
        have hp := come_cnt hT hz h1
        refine ⟨offT T t + p, (hrun _).2 ⟨t, p, ht, hz, rfl, h1⟩, (hat t p ht hp).of, (hlas t p ht hp).2 ?_⟩
        unfold prtL
        rw [if_pos hz, elems_mem]
        have := cntT_bound hT t
        exact ⟨by omega, h2⟩
    · rintro ⟨q, hq, ho, hla⟩
      obtain ⟨k, p, hk, hz', rfl, h1⟩ := (hrun q).1 hq
      have hp := come_cnt hT hz' h1
      rw [(hat k p hk hp).of] at ho
      obtain rfl : k = t := by omega
      have h2 := (hlas k p hk hp).1 hla
      unfold prtL at h2
      rw [if_pos hz'] at h2
      rw [← hl] at h1
      exact .inr ⟨p, h1, ((elems_mem _ _).1 h2).2⟩
  · have hno : isT T s t = false := by
      unfold isT
      rw [endsV_no (.inl hz)]
      rfl
    rw [hno]
    constructor
    · intro h; cases h
    · rintro ⟨q, hq, ho, _⟩
      obtain ⟨k, p, hk, hz', rfl, h1⟩ := (hrun q).1 hq
      have hp := come_cnt hT hz' h1
      rw [(hat k p hk hp).of] at ho
      obtain rfl : k = t := by omega
      exact absurd hz' hz
theorem own_tells {t : Nat} (ht : t < T.length) : (tokenM (fuseM T) (spI (ownM (fuseM T) t (runM (fuseM T) (byN s)))) == (t : Int)) = isT T s t := by
  have hR := fuseM_right hT
  unfold tokenM
  rw [if_pos hR]
  have h := tok_is hR (spI (ownM (fuseM T) t (runM (fuseM T) (byN s))))
  have hi := isT_iff hT s hs ht
  have hown : ∀ q, q ∈ ownM (fuseM T) t (runM (fuseM T) (byN s)) ↔ q ∈ runM (fuseM T) (byN s) ∧ (fuseM T).of.getD q 0 = (t : Int) := fun q => by
    unfold ownM
    rw [List.mem_filter, decide_eq_true_eq]
  rw [Bool.eq_iff_iff, beq_iff_eq, hi]
  rcases h with ⟨e, h⟩ | ⟨h0, ⟨x, hx, hl, ho⟩, _⟩
  · rw [e]
    constructor
    · intro h2; omega
    · rintro ⟨q, h1, h2, h3⟩
      rw [h q ((mem_spIZ _ _).2 ⟨q, rfl, (hown q).2 ⟨h1, h2⟩⟩)] at h3
      cases h3
  · obtain ⟨q, rfl, hq⟩ := (mem_spIZ _ _).1 hx
    obtain ⟨h1, h2⟩ := (hown q).1 hq
    rw [Int.toNat_natCast, h2] at ho
    exact ⟨fun _ => ⟨q, h1, h2, hl⟩, fun _ => ho.symm⟩
theorem first_tells : tokenM (fuseM T) (spI (runM (fuseM T) (byN s))) = firstM T s T.length := by
  have hR := fuseM_right hT
  unfold tokenM
  rw [if_pos hR]
  have h := tok_is hR (spI (runM (fuseM T) (byN s)))
  have hi := fun t ht => isT_iff hT s hs (t := t) ht
  have hof : ∀ q, q ∈ runM (fuseM T) (byN s) → ∃ k, k < T.length ∧ (fuseM T).of.getD q 0 = (k : Int) := fun q hq => by
    have hW : ∀ c ∈ byN s, c < 256 := fun c hc => by
      obtain ⟨u, _, rfl⟩ := List.mem_map.1 hc
      exact u.toNat_lt
    have hrun := run_come hT hT.len (byN s) hW (s.size - 1) (by rw [byN_len]; omega) q
    rw [show s.size - 1 + 1 = s.size by omega, List.take_of_length_le (by rw [byN_len]; exact Nat.le_refl _), fuseK_all] at hrun
    obtain ⟨k, p, hk, hz, rfl, h1⟩ := hrun.1 hq
    have hat := fuse_at T T.length k p hk (come_cnt hT hz h1)
    rw [fuseK_all] at hat
    exact ⟨k, hk, hat.of⟩
  rcases h with ⟨e, h⟩ | ⟨h0, ⟨x, hx, hl, ho⟩, hm⟩
  · rcases firstM_is T s T.length with ⟨e2, _⟩ | ⟨t, h1, h2, h3, _⟩
    · rw [e, e2]
    · obtain ⟨q, h4, h5, h6⟩ := (hi t h1).1 h3
      rw [h q ((mem_spIZ _ _).2 ⟨q, rfl, h4⟩)] at h6
      cases h6
  · obtain ⟨q, rfl, hq⟩ := (mem_spIZ _ _).1 hx
    rw [Int.toNat_natCast] at ho
    obtain ⟨k, hk, hok⟩ := hof q hq
    have hk1 := (hi k hk).2 ⟨q, hq, hok, hl⟩
    rcases firstM_is T s T.length with ⟨_, h2⟩ | ⟨t, h1, h2, h3, h4⟩
    · rw [h2 k hk] at hk1; cases hk1
    · rw [h2, ← ho, hok]
      obtain ⟨q', h5, h6, h7⟩ := (hi t h1).1 h3
      have h8 := hm q' ((mem_spIZ _ _).2 ⟨q', rfl, h5⟩) h7
      rw [Int.toNat_natCast, h6, ← ho, hok] at h8
      have h9 : ¬ k < t := fun h => by rw [h4 k h] at hk1; cases hk1
      omega
end
end Go.Proofs.YtmpjjnjggihojaaGreatDoor
