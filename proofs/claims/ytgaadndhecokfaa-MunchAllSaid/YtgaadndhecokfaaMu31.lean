/- FaTabs, FuRun, FuRunP, FuTwo, put together. -/
import Derived.Test.YtgaadndhecokfaaMu30
import Derived.Test.YtgaadndhecokfaaMu19
import Derived.Test.YtgaadndhecokfaaMu26
import Derived.Test.YtgaadndhecokfaaMu27
/- Contracts of the reference's tables: same, set, both. -/
namespace Go.Proofs.Ytgaadndhecokfaa
open Go.RowKit Go.Lib Go.Joins

end Go.Proofs.Ytgaadndhecokfaa

/- Contracts of Run and the reference's Run. -/
namespace Go.Proofs.Ytgaadndhecokfaa
open Go.RowKit Go.Lib Go.Joins
theorem stepM_len (N : NetM) (l : List Int) (b : Nat) : (stepM N l b).length ≤ N.sets.length := by
  unfold stepM
  split
  · exact hits_len _ _
  · simp
theorem startM_len (N : NetM) (b : Nat) : (startM N b).length ≤ N.sets.length := by
  unfold startM
  split
  · exact hits_len _ _
  · simp
end Go.Proofs.Ytgaadndhecokfaa

/- Contract of Run. -/
namespace Go.Proofs.Ytgaadndhecokfaa
open Go.RowKit Go.Lib Go.Joins
end Go.Proofs.Ytgaadndhecokfaa

/- The chapter's two tokens, a+ and ab. -/
namespace Go.Proofs.Ytgaadndhecokfaa
open Go.RowKit Go.Lib Go.Joins
def apL : List Stp := [bS 97, kStp 6]
def abL : List Stp := [bS 97, bS 98, kStp 3]
def apT : ByteArray := ⟨#[97, 43]⟩
def abT : ByteArray := ⟨#[97, 98]⟩
theorem ap_at : At apT 0 97 ∧ At apT 1 43 := ⟨⟨by decide, rfl⟩, ⟨by decide, rfl⟩⟩
theorem ab_at : At abT 0 97 ∧ At abT 1 98 := ⟨⟨by decide, rfl⟩, ⟨by decide, rfl⟩⟩
theorem ap_branch (w : World) : Calls Try.prog 50 #[.string apT, .int .i64 ((0 : Nat) : Int)] w (Rd w apL 2) := by
  obtain ⟨a0, a1⟩ := ap_at
  refine rbranch_calls apT w (by decide) [⟨0, 1, 43, [bS 97]⟩] 0 (by decide) (fun j => if j = 0 then 0 else 2) rfl ?_ ?_ (.inl rfl) (by decide)
  · intro j hj
    obtain rfl : j = 0 := by simpa using hj
    exact ⟨_, rfl, ⟨by decide, ⟨97, a0, by decide, by decide⟩, fun W _ => ratom_at apT 0 97 W a0 (by decide) (k_plain 97 (.inl rfl)), ⟨.inr (.inl rfl), a1, .inl rfl⟩, by decide, by decide⟩, rfl, rfl⟩
  · intro j hj
    have : apT.size = 2 := rfl
    rw [this]
    split <;> omega
theorem ab_branch (w : World) : Calls Try.prog 50 #[.string abT, .int .i64 ((0 : Nat) : Int)] w (Rd w abL 2) := by
  obtain ⟨a0, a1⟩ := ab_at
  refine rbranch_calls abT w (by decide) [⟨0, 1, 0, [bS 97]⟩, ⟨1, 2, 0, [bS 98]⟩] 0 (by decide) (fun j => j) rfl ?_ ?_ (.inl rfl) (by decide)
  · intro j hj
    have hj' : j = 0 ∨ j = 1 := by simp at hj; omega
    rcases hj' with rfl | rfl
    · exact ⟨_, rfl, ⟨by decide, ⟨97, a0, by decide, by decide⟩, fun W _ => ratom_at abT 0 97 W a0 (by decide) (k_plain 97 (.inl rfl)), .inr ⟨98, a1, by decide⟩, by decide, by decide⟩, rfl, rfl⟩
    · exact ⟨_, rfl, ⟨by decide, ⟨98, a1, by decide, by decide⟩, fun W _ => ratom_at abT 1 98 W a1 (by decide) (k_plain 98 (.inr (.inl rfl))), .inl rfl, by decide, by decide⟩, rfl, rfl⟩
  · intro j hj
    have : abT.size = 2 := rfl
    rw [this]
    exact hj
theorem ap_text (w : World) : Calls Try.prog 31 #[.string apT, .int .i64 ((0 : Nat) : Int)] w (Rd w apL 2) :=
  rtext_calls apT w (by decide) ⟨0, 2, apL⟩ [] (by decide) ⟨by decide, by decide, fun W _ => ap_branch W⟩ (fun _ => 2) rfl (fun j hj => by simp at hj) (fun _ _ => by decide) (.inl rfl) (by decide)
theorem ab_text (w : World) : Calls Try.prog 31 #[.string abT, .int .i64 ((0 : Nat) : Int)] w (Rd w abL 2) :=
  rtext_calls abT w (by decide) ⟨0, 2, abL⟩ [] (by decide) ⟨by decide, by decide, fun W _ => ab_branch W⟩ (fun _ => 2) rfl (fun j hj => by simp at hj) (fun _ _ => by decide) (.inl rfl) (by decide)
set_option maxRecDepth 100000 in
theorem ap_read (w : World) : Calls Try.prog 21 #[.string ⟨#[97, 43]⟩] w fun e w' => (∃ v, e = .returned (.tuple #[v, .int .i64 2, .int .i64 0]) ∧ RowX w' w.heap.size v apL) ∧ Below w.heap.size w w' := by
  have HT := hidden (ap_text w)
  go_enter Try.func21, Try.ntmps21
  go_wp2_with fail
  refine HT.out.mono ?_
  rintro e w1 ⟨v, rfl, hr, hb1⟩
  obtain ⟨a1, c1, rfl⟩ : ∃ a c, v = .slice a 2 c := by
    rcases ownsRow_forms hr with ⟨rfl, h0⟩ | ⟨g, cap, rfl⟩
    · cases h0
    · exact ⟨_, _, rfl⟩
  go_wp2
  go_ret3
  exact ⟨⟨_, rfl, hr⟩, hb1⟩
set_option maxRecDepth 100000 in
theorem ab_read (w : World) : Calls Try.prog 21 #[.string ⟨#[97, 98]⟩] w fun e w' => (∃ v, e = .returned (.tuple #[v, .int .i64 2, .int .i64 0]) ∧ RowX w' w.heap.size v abL) ∧ Below w.heap.size w w' := by
  have HT := hidden (ab_text w)
  go_enter Try.func21, Try.ntmps21
  go_wp2_with fail
  refine HT.out.mono ?_
  rintro e w1 ⟨v, rfl, hr, hb1⟩
  obtain ⟨a1, c1, rfl⟩ : ∃ a c, v = .slice a 3 c := by
    rcases ownsRow_forms hr with ⟨rfl, h0⟩ | ⟨g, cap, rfl⟩
    · cases h0
    · exact ⟨_, _, rfl⟩
  go_wp2
  go_ret3
  exact ⟨⟨_, rfl, hr⟩, hb1⟩
def twoT : List (List Stp) := [apL, abL]
theorem toks_two (w : World) (u1 u2 x y m n : Value) (t : TypeId) (g : Nat) (hg : g = w.heap.size) (h1 : SlX (fun b => b < w.heap.size) w u1 apL) (h2 : SlX (fun b => b < w.heap.size) w u2 abL) :
    Toks (fun b => b < (w.alloc (.cells #[x, u1, m, y, u2, n] t)).heap.size) (w.alloc (.cells #[x, u1, m, y, u2, n] t)) (.slice (some ⟨g, 0, none⟩) 2 2) twoT := by
  subst hg
  have hl : ∀ {v L}, SlX (fun b => b < w.heap.size) w v L → SlX (fun b => b < (w.alloc (.cells #[x, u1, m, y, u2, n] t)).heap.size) (w.alloc (.cells #[x, u1, m, y, u2, n] t)) v L := fun h => h.below fun b hb => ⟨by have h : b < w.heap.size := hb; simp; omega, ((Below.refl w.heap.size w).alloc (Nat.le_refl _) _).block b hb⟩
  refine ⟨_, _, rfl, by decide, by decide, fun _ => ⟨w.heap.size, 0, rfl, by simp, fun i hi => ?_⟩⟩
  have hi' : i = 0 ∨ i = 1 := by
    have : twoT.length = 2 := rfl
    omega
  rcases hi' with rfl | rfl
  · exact ⟨u1, cell_of_row _ _ 1 _ _ _ (heap_alloc_new w _), hl h1⟩
  · exact ⟨u2, cell_of_row _ _ 4 _ _ _ (heap_alloc_new w _), hl h2⟩
theorem two_few : FewT twoT := by
  refine ⟨by decide, fun i => ?_, fun i s hs => ?_⟩
  · match i with
    | 0 => decide
    | 1 => decide
    | _ + 2 => simp [twoT]
  · have hk : ∀ k, (kStp k).wide := fun k => ⟨by simp [kStp], by simp [kStp], by simp [kStp], by simp [kStp]⟩
    have hb : ∀ c, (bS c).wide := fun c => by
      have h := fun i => word_lt (fOne c.toNat) i
      exact ⟨⟨Int.natCast_nonneg _, by have := h 0; simp only [bS, sStp]; omega⟩, ⟨Int.natCast_nonneg _, by have := h 1; simp only [bS, sStp]; omega⟩, ⟨Int.natCast_nonneg _, by have := h 2; simp only [bS, sStp]; omega⟩, ⟨Int.natCast_nonneg _, by have := h 3; simp only [bS, sStp]; omega⟩⟩
    match i with
    | 0 =>
      simp only [twoT, apL, List.getD_cons_zero, List.mem_cons, List.not_mem_nil, or_false] at hs
      rcases hs with rfl | rfl
      · exact hb _
      · exact hk _
    | 1 =>
      simp only [twoT, abL, List.getD_cons_succ, List.getD_cons_zero, List.mem_cons, List.not_mem_nil, or_false] at hs
      rcases hs with rfl | rfl | rfl
      · exact hb _
      · exact hb _
      · exact hk _
    | _ + 2 => simp [twoT] at hs
end Go.Proofs.Ytgaadndhecokfaa
