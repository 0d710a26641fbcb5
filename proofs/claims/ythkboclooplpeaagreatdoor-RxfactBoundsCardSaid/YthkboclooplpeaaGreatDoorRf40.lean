/- FaKn, FaFact, put together. -/
import Derived.Test.YthkboclooplpeaaGreatDoorRf11
import Derived.Test.YthkboclooplpeaaGreatDoorRf36
import Derived.Test.YthkboclooplpeaaGreatDoorRf37
import Derived.Test.YthkboclooplpeaaGreatDoorRf39
import Derived.Test.YthkboclooplpeaaGreatDoorRf21
import Derived.Test.YthkboclooplpeaaGreatDoorRf15
import Derived.Test.YthkboclooplpeaaGreatDoorRf32
/- What every statement knows besides: the chapter's example. -/
namespace Go.Proofs.YthkboclooplpeaaGreatDoor
open Go.RowKit Go.Lib Go.Joins

theorem k_short : (if (measV kL).2 = 0 then shE (treeE kL) else -1) = 1 := by decide +kernel
theorem k_long : (if (measV kL).2 = 0 then loE (treeE kL) else -1) = -2 := by decide +kernel
theorem k_first : sameSet (letF kL).first (fSpan 97 99) = true := by decide +kernel
theorem k_ends : endsA kL ⟨#[97, 98, 99, 99]⟩ 0 = [3] := by decide +kernel
theorem k_says : lastIs (endsF kL ⟨#[99]⟩ 0) 1 = true := by decide +kernel
theorem k_wide : ∀ s ∈ kL, s.wide := by
  intro s hs
  simp only [kL, List.mem_cons, List.not_mem_nil, or_false] at hs
  have hk : ∀ k, (kStp k).wide := fun k => ⟨by simp [kStp], by simp [kStp], by simp [kStp], by simp [kStp]⟩
  have hb : ∀ c, (bS c).wide := fun c => by
    have h := fun i => word_lt (fOne c.toNat) i
    exact ⟨⟨Int.natCast_nonneg _, by have := h 0; simp only [bS, sStp]; omega⟩, ⟨Int.natCast_nonneg _, by have := h 1; simp only [bS, sStp]; omega⟩, ⟨Int.natCast_nonneg _, by have := h 2; simp only [bS, sStp]; omega⟩, ⟨Int.natCast_nonneg _, by have := h 3; simp only [bS, sStp]; omega⟩⟩
  rcases hs with rfl | rfl | rfl | rfl | rfl | rfl
  · exact hb _
  · exact hb _
  · exact hk _
  · exact hk _
  · exact hb _
  · exact hk _
theorem lit_ints (w : World) (n : Nat) (b : Nat) (hb : b = w.heap.size) : RdI (w.alloc (.cells #[.int .i64 (n : Int)] 3)) (.slice (some ⟨b, 0, none⟩) 1 1) [n] := by
  subst hb
  refine ⟨_, 1, rfl, fun _ => ⟨_, rfl, fun i hi => ?_⟩⟩
  obtain rfl : i = 0 := by simpa using hi
  exact cell_of_row _ _ 0 _ _ _ (heap_alloc_new w _)
theorem few_calls {C : Nat → Prop} {v : Value} {L : List Stp} {w : World} (h : SlX C w v L) : Calls Tryz.prog 7 #[v] w fun e w' => e = .returned (.bool (decide (L.length ≤ 80))) ∧ w = w' := by
  obtain ⟨a, c, rfl, _⟩ := h
  have q : decide ((L.length : Int) ≤ 80) = decide (L.length ≤ 80) := by simp; omega
  generalize decide (L.length ≤ 80) = b at *
  go_enter Tryz.func7, Tryz.ntmps7
  go_wp2
  go_ret
  exact ⟨rfl, rfl⟩
set_option maxHeartbeats 4000000 in
set_option maxRecDepth 100000 in
theorem knows_calls (w : World) (ht : Tab w) : Calls Tryz.prog 8 #[] w fun e w' => e = .returned (.bool true) ∧ Below w.heap.size w w' := by
  have HT := hidden ht
  clear ht
  go_enter Tryz.func8, Tryz.ntmps8
  go_wp2_with fail
  refine (k_read _).mono ?_
  rintro e w1 ⟨⟨v, rfl, hr⟩, hb1⟩
  have HV1 := hidden hr.reads
  have HB1 := hidden hb1
  obtain ⟨a1, l1, c1, rfl⟩ := rowX_slice hr
  clear hr hb1
  go_wp2_with fail
  refine (Shortest_calls HV1.out (fun b hb => hb.2) k_wide).mono ?_
  rintro e w2 ⟨rfl, hb2⟩
  rw [k_short]
  have HV2 := hidden (HV1.out.kept hb2)
  have HB2 := hidden (below_after HB1.out hb2)
  clear hb2
  go_wp2_with fail
  refine (Longest_calls HV2.out (fun b hb => hb.2) k_wide).mono ?_
  rintro e w3 ⟨rfl, hb3⟩
  rw [k_long]
  have HV3 := hidden (HV2.out.kept hb3)
  have HB3 := hidden (below_after HB2.out hb3)
  clear hb3
  go_wp2_with fail
  refine (First_calls HV3.out (fun b hb => hb.2) k_wide).mono ?_
  rintro e w4 ⟨rfl, hb4⟩
  have HV4 := hidden (HV3.out.kept hb4)
  have HB4 := hidden (below_after HB3.out hb4)
  clear hb4
  go_wp2_with fail
  refine (span_calls 97 99 _).mono ?_
  rintro e w5 ⟨rfl, hb5⟩
  have HV5 := hidden (HV4.out.kept hb5)
  have HB5 := hidden (below_after HB4.out hb5)
  have hq := fun W => (eq_sets W (letF kL).first (fSpan 97 99)).trans (by rw [k_first])
  generalize (letF kL).first = F at *
  clear hb5
  go_wp2_with fail
  refine (Ends_calls HV5.out (fun b hb => hb.2) k_wide (HT.out.below HB5.out) (by decide)).mono ?_
  rintro e w6 ⟨u, rfl, hu, hb6⟩
  rw [k_ends] at hu
  have HV6 := hidden (HV5.out.kept hb6)
  have HB6 := hidden (below_after HB5.out hb6)
  have HU6 := hidden hu
  obtain ⟨a6, c6, rfl, _⟩ := hu
  clear hb6
  go_wp2_with fail
  refine (same_ints (HU6.out.below ((Below.refl w6.heap.size w6).alloc (Nat.le_refl _) _)) (lit_ints w6 3 _ rfl) (by decide)).mono ?_
  rintro e w7 ⟨rfl, hb7⟩
  have HB76 := hidden (below_then ((Below.refl w6.heap.size w6).alloc (Nat.le_refl _) _) (by simp) hb7)
  have HV7 := hidden (HV6.out.kept HB76.out)
  have HB7 := hidden (below_after HB6.out HB76.out)
  rw [show decide (([3] : List Nat) = [3]) = true from rfl]
  clear hb7
  go_wp2_with fail
  refine (Says_calls HV7.out (fun b hb => hb.2) k_wide (HT.out.below HB7.out) (by decide)).mono ?_
  rintro e w8 ⟨rfl, hb8⟩
  rw [show lastIs (endsF kL ⟨#[99]⟩ 0) (ByteArray.size ⟨#[99]⟩) = true from k_says]
  have HB8 := hidden (below_after HB7.out hb8)
  clear hb8
  go_wp2
  go_ret
  exact ⟨rfl, HB8.out⟩
end Go.Proofs.YthkboclooplpeaaGreatDoor

/- The trees of what is put together; what Says and Nullable answer, as words. Of no program. -/
namespace Go.Proofs.YthkboclooplpeaaGreatDoor

theorem pushE_under {s : Stp} {u t : List Ex} (h0 : 0 ≤ kOps s.k) (hl : kOps s.k ≤ u.length) : pushE s (u ++ t) = pushE s u ++ t ∧ ((pushE s u).length : Int) = u.length + (1 - kOps s.k) := by
  rcases kind_cases h0 with h | h | h | h | h
  · unfold pushE
    rw [if_pos h, if_pos h, h]
    simp [kOps]
  · unfold pushE
    rw [if_neg (by omega), if_pos h, if_neg (by omega), if_pos h, h]
    simp [kOps]
  · rw [h, show kOps 3 = 2 from rfl] at hl
    match u, hl with
    | b :: a :: r, _ =>
      unfold pushE
      rw [if_neg (by omega), if_neg (by omega), if_pos h, if_neg (by omega), if_neg (by omega), if_pos h, h, show kOps 3 = 2 from rfl]
      simp only [List.cons_append, true_and, List.length_cons]
      omega
    | [a], hl => simp at hl
    | [], hl => simp at hl
  · rw [h, show kOps 4 = 2 from rfl] at hl
    match u, hl with
    | b :: a :: r, _ =>
      unfold pushE
      rw [if_neg (by omega), if_neg (by omega), if_neg (by omega), if_pos h, if_neg (by omega), if_neg (by omega), if_neg (by omega), if_pos h, h, show kOps 4 = 2 from rfl]
      simp only [List.cons_append, true_and, List.length_cons]
      omega
    | [a], hl => simp at hl
    | [], hl => simp at hl
  · have h1 : kOps s.k = 1 := by rcases h with h | h | h <;> rw [h] <;> rfl
    rw [h1] at hl ⊢
    match u, hl with
    | a :: r, _ =>
      unfold pushE
      rw [if_neg (by omega), if_neg (by omega), if_neg (by omega), if_neg (by omega), if_neg (by omega), if_neg (by omega), if_neg (by omega), if_neg (by omega)]
      simp only [List.cons_append, true_and, List.length_cons]
      omega
    | [], hl => simp at hl
theorem treeGo_under : ∀ (M : List Stp) (p : Int) (u t : List Ex), Goes M p → p ≤ u.length → treeGo M (u ++ t) = treeGo M u ++ t
  | [], _, _, _, _, _ => rfl
  | s :: r, p, u, t, ⟨h1, h2, h3⟩, hp => by
    obtain ⟨e1, e2⟩ := pushE_under (s := s) (u := u) (t := t) h1.1 (by omega)
    simp only [treeGo]
    rw [e1]
    exact treeGo_under r _ _ t h3 (by omega)
theorem treeGo_one {L : List Stp} (hE : Expr L) (hw : ∀ s ∈ L, s.wide) : treeGo L [] = [treeE L] := by
  have h := (tree_of hE hw).1
  unfold trees at h
  rw [List.take_length] at h
  have := congrArg List.reverse h
  simpa using this
theorem treeGo_put {L : List Stp} (hE : Expr L) (hw : ∀ s ∈ L, s.wide) (t : List Ex) : treeGo L t = treeE L :: t := by
  have := treeGo_under L 0 [] t hE.1 (by simp)
  rw [List.nil_append, treeGo_one hE hw] at this
  exact this
theorem tree_cat {L M : List Stp} (hL : Expr L) (hM : Expr M) (wL : ∀ s ∈ L, s.wide) (wM : ∀ s ∈ M, s.wide) : treeE (L ++ M ++ [kStp 3]) = .cat (treeE L) (treeE M) := by
  have h : treeGo (L ++ M ++ [kStp 3]) [] = [.cat (treeE L) (treeE M)] := by
    rw [treeGo_append, treeGo_append, treeGo_put hL wL, treeGo_put hM wM]
    rfl
  show (treeGo (L ++ M ++ [kStp 3]) []).headD .emp = _
  rw [h]
  rfl
theorem tree_alt {L M : List Stp} (hL : Expr L) (hM : Expr M) (wL : ∀ s ∈ L, s.wide) (wM : ∀ s ∈ M, s.wide) : treeE (L ++ M ++ [kStp 4]) = .alt (treeE L) (treeE M) := by
  have h : treeGo (L ++ M ++ [kStp 4]) [] = [.alt (treeE L) (treeE M)] := by
    rw [treeGo_append, treeGo_append, treeGo_put hL wL, treeGo_put hM wM]
    rfl
  show (treeGo (L ++ M ++ [kStp 4]) []).headD .emp = _
  rw [h]
  rfl
theorem tree_un {L : List Stp} {k : Int} (hL : Expr L) (wL : ∀ s ∈ L, s.wide) (hk : k = 5 ∨ k = 6 ∨ k = 7) : treeE (L ++ [kStp k]) = .un k (treeE L) := by
  have h : treeGo (L ++ [kStp k]) [] = [.un k (treeE L)] := by
    rw [treeGo_append, treeGo_put hL wL]
    rcases hk with rfl | rfl | rfl <;> rfl
  show (treeGo (L ++ [kStp k]) []).headD .emp = _
  rw [h]
  rfl
theorem kStp_wide (k : Int) : (kStp k).wide := ⟨by simp [kStp], by simp [kStp], by simp [kStp], by simp [kStp]⟩
theorem wide_one {L : List Stp} (k : Int) (h : ∀ s ∈ L, s.wide) : ∀ s ∈ L ++ [kStp k], s.wide := fun s hs => by
  rcases List.mem_append.1 hs with hs | hs
  · exact h s hs
  · simp only [List.mem_singleton] at hs
    subst hs
    exact kStp_wide k
theorem wide_two {L M : List Stp} (k : Int) (h : ∀ s ∈ L, s.wide) (h' : ∀ s ∈ M, s.wide) : ∀ s ∈ L ++ M ++ [kStp k], s.wide := wide_one k fun s hs => by
  rcases List.mem_append.1 hs with hs | hs
  · exact h s hs
  · exact h' s hs
/-- what Says answers -/
theorem says_lang {L : List Stp} (hw : ∀ s ∈ L, s.wide) (s : ByteArray) : lastIs (endsF L s 0) s.size = true ↔ (measV L).2 = 0 ∧ Lang (treeE L) (byN s) := by
  rw [endsF_V hw s 0 (Nat.zero_le _)]
  by_cases hz : (measV L).2 = 0
  · rw [endsV_yes hz (Nat.zero_le _), ← byN_len s, lastIs_iff, says_iff]
    simp [hz]
  · rw [endsV_no (.inl hz)]
    simp [hz, lastIs]
theorem null_lang {L : List Stp} (hw : ∀ s ∈ L, s.wide) : (if (measV L).2 = 0 then nul (treeE L) else false) = true ↔ (measV L).2 = 0 ∧ Lang (treeE L) [] := by
  by_cases hz : (measV L).2 = 0
  · rw [if_pos hz, nul_iff _ (tree_of (meas_expr hz).2 hw).2.1]
    simp [hz]
  · rw [if_neg hz]
    simp [hz]
theorem byN_nil : byN ⟨#[]⟩ = [] := rfl
theorem null_says {L : List Stp} (hw : ∀ s ∈ L, s.wide) : (if (measV L).2 = 0 then nul (treeE L) else false) = lastIs (endsV L (byN ⟨#[]⟩) 0) (ByteArray.size ⟨#[]⟩) := by
  have h1 := endsF_V hw ⟨#[]⟩ 0 (Nat.zero_le _)
  rw [show ((0 : Nat) : Int) = 0 from rfl] at h1
  rw [← h1, Bool.eq_iff_iff, null_lang hw, says_lang hw, byN_nil]
theorem byN_append (a b : ByteArray) : byN (a ++ b) = byN a ++ byN b := by
  unfold byN
  rw [ByteArray.data_append]
  simp
theorem endsV_len (L : List Stp) (s : ByteArray) (a : Int) : (endsV L (byN s) a).length ≤ s.size + 1 := by
  unfold endsV
  split
  · have := filter_len (lgB (treeE L) (byN s) a.toNat) ((byN s).length + 1)
    rw [byN_len] at this ⊢
    exact this
  · simp
end Go.Proofs.YthkboclooplpeaaGreatDoor
