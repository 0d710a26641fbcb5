/- Strictly rising lists of numbers: what a merge does with two, what putting a number in makes. Of no program. -/
import Derived.Test.YtbnohmbdfcapkaaDoorBase
import Derived.Lib.SlicesCompact
namespace Go.Proofs.YtbnohmbdfcapkaaDoor

def Up (l : List Int) : Prop := l.Pairwise (· < ·)
theorem up_nil : Up [] := List.Pairwise.nil
theorem up_ext : ∀ {a b : List Int}, Up a → Up b → (∀ x, x ∈ a ↔ x ∈ b) → a = b
  | [], [], _, _, _ => rfl
  | [], y :: b, _, _, h => by have := (h y).2 (by simp); simp at this
  | x :: a, [], _, _, h => by have := (h x).1 (by simp); simp at this
  | x :: a, y :: b, ha, hb, h => by
    have ha' := List.pairwise_cons.1 ha
    have hb' := List.pairwise_cons.1 hb
    have hxy : x = y := by
      have h1 := (h x).1 (by simp)
      have h2 := (h y).2 (by simp)
      simp only [List.mem_cons] at h1 h2
      rcases h1 with e | e
      · exact e
      · rcases h2 with e2 | e2
        · exact e2.symm
        · have := hb'.1 x e
          have := ha'.1 y e2
          omega
    subst hxy
    rw [up_ext ha'.2 hb'.2 fun z => ?_]
    have hz := h z
    simp only [List.mem_cons] at hz
    constructor
    · intro g
      rcases hz.1 (.inr g) with e | e
      · have := ha'.1 z g
        omega
      · exact e
    · intro g
      rcases hz.2 (.inr g) with e | e
      · have := hb'.1 z g
        omega
      · exact e
/-- what a merge does: 0: of the first alone, 1: of both, 2: of the second alone -/
def evs : List Int → List Int → List (Nat × Int)
  | [], b => b.map fun y => (2, y)
  | x :: a, [] => (x :: a).map fun y => (0, y)
  | x :: a, y :: b => if x < y then (0, x) :: evs a (y :: b) else if y < x then (2, y) :: evs (x :: a) b else (1, x) :: evs a b
termination_by a b => a.length + b.length
theorem evs_nil (b : List Int) : evs [] b = b.map fun y => (2, y) := by rw [evs]
theorem evs_none (a : List Int) : evs a [] = a.map fun y => (0, y) := by
  cases a with
  | nil => rw [evs]; rfl
  | cons x a => rw [evs]
theorem evs_lt {x y : Int} (h : x < y) (a b : List Int) : evs (x :: a) (y :: b) = (0, x) :: evs a (y :: b) := by rw [evs, if_pos h]
theorem evs_gt {x y : Int} (h : y < x) (a b : List Int) : evs (x :: a) (y :: b) = (2, y) :: evs (x :: a) b := by rw [evs, if_neg (by omega), if_pos h]
theorem evs_eq (x : Int) (a b : List Int) : evs (x :: a) (x :: b) = (1, x) :: evs a b := by rw [evs, if_neg (by omega), if_neg (by omega)]
/-- where one list is at its end -/
theorem evs_end {a b : List Int} (h : a = [] ∨ b = []) : evs a b = (a.map fun y => (0, y)) ++ b.map fun y => (2, y) := by
  rcases h with rfl | rfl
  · rw [evs_nil]; rfl
  · rw [evs_none]; simp
def Told (a b : List Int) (k : Nat) (x : Int) : Prop := (k = 0 ∧ x ∈ a ∧ x ∉ b) ∨ (k = 1 ∧ x ∈ a ∧ x ∈ b) ∨ (k = 2 ∧ x ∉ a ∧ x ∈ b)
theorem up_cons {x : Int} {a : List Int} : Up (x :: a) ↔ (∀ y ∈ a, x < y) ∧ Up a := List.pairwise_cons
theorem up_map_snd (k : Nat) (a : List Int) : (a.map fun y => (k, y)).map Prod.snd = a := by
  rw [List.map_map]
  exact (List.map_congr_left fun _ _ => rfl).trans (List.map_id a)
theorem evs_facts : ∀ (n : Nat) (a b : List Int), a.length + b.length ≤ n → Up a → Up b → Up ((evs a b).map Prod.snd) ∧ ∀ k x, (k, x) ∈ evs a b ↔ Told a b k x
  | _, [], b, _, _, hb => by
    rw [evs_nil, up_map_snd]
    refine ⟨hb, fun k x => ?_⟩
    simp only [List.mem_map, Prod.mk.injEq, Told, List.not_mem_nil, false_and, and_false, false_or, not_false_eq_true, true_and]
    constructor
    · rintro ⟨y, h, rfl, rfl⟩; exact ⟨rfl, h⟩
    · rintro ⟨rfl, h⟩; exact ⟨x, h, rfl, rfl⟩
  | _, x :: a, [], _, ha, _ => by
    rw [evs_none, up_map_snd]
    refine ⟨ha, fun k z => ?_⟩
    simp only [List.mem_map, Prod.mk.injEq, Told, List.not_mem_nil, and_false, or_false, not_false_eq_true, and_true]
    constructor
    · rintro ⟨y, h, rfl, rfl⟩; exact ⟨rfl, h⟩
    · rintro ⟨rfl, h⟩; exact ⟨z, h, rfl, rfl⟩
  | 0, x :: a, y :: b, h, _, _ => by simp at h
  | n + 1, x :: a, y :: b, h, ha, hb => by
    have ha' := up_cons.1 ha
    have hb' := up_cons.1 hb
    simp only [List.length_cons] at h
    rcases Int.lt_trichotomy x y with hxy | rfl | hxy
    · obtain ⟨i1, i2⟩ := evs_facts n a (y :: b) (by simp only [List.length_cons]; omega) ha'.2 hb
      rw [evs_lt hxy]
      have hlow : ∀ z ∈ y :: b, x < z := fun z hz => by
        rcases List.mem_cons.1 hz with rfl | hz
        · exact hxy
        · have := hb'.1 z hz; omega
      refine ⟨up_cons.2 ⟨fun z hz => ?_, i1⟩, fun k z => ?_⟩
      · obtain ⟨⟨k, w⟩, hm, rfl⟩ := List.mem_map.1 hz
        rcases (i2 k w).1 hm with h1 | h1 | h1
        · exact ha'.1 _ h1.2.1
        · exact ha'.1 _ h1.2.1
        · exact hlow _ h1.2.2
      · have hnx : x ∉ y :: b := fun hm => by have := hlow x hm; omega
        have hna : x ∉ a := fun hm => by have := ha'.1 x hm; omega
        rw [List.mem_cons, i2, Prod.mk.injEq]
        unfold Told
        constructor
        · rintro (⟨rfl, rfl⟩ | h1 | h1 | h1)
          · exact .inl ⟨rfl, by simp, hnx⟩
          · exact .inl ⟨h1.1, List.mem_cons_of_mem _ h1.2.1, h1.2.2⟩
          · exact .inr (.inl ⟨h1.1, List.mem_cons_of_mem _ h1.2.1, h1.2.2⟩)
          · refine .inr (.inr ⟨h1.1, fun hm => ?_, h1.2.2⟩)
            rcases List.mem_cons.1 hm with rfl | hm
            · exact hnx h1.2.2
            · exact h1.2.1 hm
        · rintro (h1 | h1 | h1)
          · rcases List.mem_cons.1 h1.2.1 with rfl | hm
            · exact .inl ⟨h1.1, rfl⟩
            · exact .inr (.inl ⟨h1.1, hm, h1.2.2⟩)
          · rcases List.mem_cons.1 h1.2.1 with rfl | hm
            · exact absurd h1.2.2 hnx
            · exact .inr (.inr (.inl ⟨h1.1, hm, h1.2.2⟩))
          · exact .inr (.inr (.inr ⟨h1.1, fun hm => h1.2.1 (List.mem_cons_of_mem _ hm), h1.2.2⟩))
    · obtain ⟨i1, i2⟩ := evs_facts n a b (by omega) ha'.2 hb'.2
      rw [evs_eq]
      have hna : x ∉ a := fun hm => by have := ha'.1 x hm; omega
      have hnb : x ∉ b := fun hm => by have := hb'.1 x hm; omega
      refine ⟨up_cons.2 ⟨fun z hz => ?_, i1⟩, fun k z => ?_⟩
      · obtain ⟨⟨k, w⟩, hm, rfl⟩ := List.mem_map.1 hz
        rcases (i2 k w).1 hm with h1 | h1 | h1
        · exact ha'.1 _ h1.2.1
        · exact ha'.1 _ h1.2.1
        · exact hb'.1 _ h1.2.2
      · rw [List.mem_cons, i2, Prod.mk.injEq]
        unfold Told
        simp only [List.mem_cons, not_or]
        constructor
        · rintro (⟨rfl, rfl⟩ | h1 | h1 | h1)
          · exact .inr (.inl ⟨rfl, .inl rfl, .inl rfl⟩)
          · exact .inl ⟨h1.1, .inr h1.2.1, fun e => by subst e; exact hna h1.2.1, h1.2.2⟩
          · exact .inr (.inl ⟨h1.1, .inr h1.2.1, .inr h1.2.2⟩)
          · exact .inr (.inr ⟨h1.1, ⟨fun e => by subst e; exact hnb h1.2.2, h1.2.1⟩, .inr h1.2.2⟩)
        · rintro (h1 | h1 | h1)
          · rcases h1.2.1 with e | hm
            · exact absurd e h1.2.2.1
            · exact .inr (.inl ⟨h1.1, hm, h1.2.2.2⟩)
          · by_cases e : z = x
            · exact .inl ⟨h1.1, e⟩
            · exact .inr (.inr (.inl ⟨h1.1, h1.2.1.resolve_left e, h1.2.2.resolve_left e⟩))
          · exact .inr (.inr (.inr ⟨h1.1, h1.2.1.2, h1.2.2.resolve_left h1.2.1.1⟩))
    · obtain ⟨i1, i2⟩ := evs_facts n (x :: a) b (by simp only [List.length_cons]; omega) ha hb'.2
      rw [evs_gt hxy]
      have hlow : ∀ z ∈ x :: a, y < z := fun z hz => by
        rcases List.mem_cons.1 hz with rfl | hz
        · exact hxy
        · have := ha'.1 z hz; omega
      refine ⟨up_cons.2 ⟨fun z hz => ?_, i1⟩, fun k z => ?_⟩
      · obtain ⟨⟨k, w⟩, hm, rfl⟩ := List.mem_map.1 hz
        rcases (i2 k w).1 hm with h1 | h1 | h1
        · exact hlow _ h1.2.1
        · exact hlow _ h1.2.1
        · exact hb'.1 _ h1.2.2
      · have hny : y ∉ x :: a := fun hm => by have := hlow y hm; omega
        have hnb : y ∉ b := fun hm => by have := hb'.1 y hm; omega
        rw [List.mem_cons, i2, Prod.mk.injEq]
        unfold Told
        constructor
        · rintro (⟨rfl, rfl⟩ | h1 | h1 | h1)
          · exact .inr (.inr ⟨rfl, hny, by simp⟩)
          · refine .inl ⟨h1.1, h1.2.1, fun hm => ?_⟩
            rcases List.mem_cons.1 hm with rfl | hm
            · exact hny h1.2.1
            · exact h1.2.2 hm
          · exact .inr (.inl ⟨h1.1, h1.2.1, List.mem_cons_of_mem _ h1.2.2⟩)
          · exact .inr (.inr ⟨h1.1, h1.2.1, List.mem_cons_of_mem _ h1.2.2⟩)
        · rintro (h1 | h1 | h1)
          · exact .inr (.inl ⟨h1.1, h1.2.1, fun hm => h1.2.2 (List.mem_cons_of_mem _ hm)⟩)
          · rcases List.mem_cons.1 h1.2.2 with rfl | hm
            · exact absurd h1.2.1 hny
            · exact .inr (.inr (.inl ⟨h1.1, h1.2.1, hm⟩))
          · rcases List.mem_cons.1 h1.2.2 with rfl | hm
            · exact .inl ⟨h1.1, rfl⟩
            · exact .inr (.inr (.inr ⟨h1.1, h1.2.1, hm⟩))
/-- the events of some kinds -/
def pickV (p : Nat → Bool) (E : List (Nat × Int)) : List Int := (E.filter fun e => p e.1).map Prod.snd
theorem pick_append (p : Nat → Bool) (E F : List (Nat × Int)) : pickV p (E ++ F) = pickV p E ++ pickV p F := by simp [pickV]
theorem pick_up {p : Nat → Bool} {a b : List Int} (ha : Up a) (hb : Up b) : Up (pickV p (evs a b)) :=
  List.Pairwise.sublist ((List.filter_sublist).map Prod.snd) (evs_facts _ a b (Nat.le_refl _) ha hb).1
theorem pick_mem {p : Nat → Bool} {a b : List Int} (ha : Up a) (hb : Up b) (x : Int) : x ∈ pickV p (evs a b) ↔ (p 0 = true ∧ x ∈ a ∧ x ∉ b) ∨ (p 1 = true ∧ x ∈ a ∧ x ∈ b) ∨ (p 2 = true ∧ x ∉ a ∧ x ∈ b) := by
  have h := (evs_facts _ a b (Nat.le_refl _) ha hb).2
  unfold pickV
  constructor
  · intro hx
    obtain ⟨⟨k, z⟩, hm, rfl⟩ := List.mem_map.1 hx
    obtain ⟨h1, h2⟩ := List.mem_filter.1 hm
    rcases (h k z).1 h1 with ⟨rfl, h3⟩ | ⟨rfl, h3⟩ | ⟨rfl, h3⟩
    · exact .inl ⟨h2, h3⟩
    · exact .inr (.inl ⟨h2, h3⟩)
    · exact .inr (.inr ⟨h2, h3⟩)
  · rintro (⟨h1, h2⟩ | ⟨h1, h2⟩ | ⟨h1, h2⟩)
    · exact List.mem_map.2 ⟨(0, x), List.mem_filter.2 ⟨(h 0 x).2 (.inl ⟨rfl, h2⟩), h1⟩, rfl⟩
    · exact List.mem_map.2 ⟨(1, x), List.mem_filter.2 ⟨(h 1 x).2 (.inr (.inl ⟨rfl, h2⟩)), h1⟩, rfl⟩
    · exact List.mem_map.2 ⟨(2, x), List.mem_filter.2 ⟨(h 2 x).2 (.inr (.inr ⟨rfl, h2⟩)), h1⟩, rfl⟩
theorem evs_len : ∀ (n : Nat) (a b : List Int), a.length + b.length ≤ n → (evs a b).length ≤ a.length + b.length
  | _, [], b, _ => by rw [evs_nil]; simp
  | _, x :: a, [], _ => by rw [evs_none]; simp
  | 0, x :: a, y :: b, h => by simp at h
  | n + 1, x :: a, y :: b, h => by
    simp only [List.length_cons] at h
    rcases Int.lt_trichotomy x y with hxy | rfl | hxy
    · have := evs_len n a (y :: b) (by simp only [List.length_cons]; omega)
      rw [evs_lt hxy]
      simp only [List.length_cons] at this ⊢
      omega
    · have := evs_len n a b (by omega)
      rw [evs_eq]
      simp only [List.length_cons]
      omega
    · have := evs_len n (x :: a) b (by simp only [List.length_cons]; omega)
      rw [evs_gt hxy]
      simp only [List.length_cons] at this ⊢
      omega
theorem pick_len (p : Nat → Bool) (E : List (Nat × Int)) : (pickV p E).length ≤ E.length := by
  unfold pickV
  rw [List.length_map]
  exact List.length_filter_le _ _
/-! ### a number more -/
/-- how many stand ahead that are less -/
def lead : List Int → Int → Nat
  | [], _ => 0
  | y :: l, n => if y < n then lead l n + 1 else 0
theorem lead_le : ∀ (l : List Int) (n : Int), lead l n ≤ l.length
  | [], _ => Nat.le_refl _
  | y :: l, n => by
    have := lead_le l n
    simp only [lead, List.length_cons]
    split <;> omega
theorem lead_at : ∀ (l : List Int) (n : Int) (i : Nat), i ≤ lead l n → (i < lead l n ↔ i < l.length ∧ l.getD i 0 < n)
  | [], n, i, h => by simp [lead] at h ⊢
  | y :: l, n, i, h => by
    simp only [lead] at h ⊢
    split
    · rename_i hy
      rw [if_pos hy] at h
      cases i with
      | zero => simp [hy]
      | succ i =>
        have := lead_at l n i (by omega)
        simp only [List.length_cons, List.getD_cons_succ]
        omega
    · rename_i hy
      rw [if_neg hy] at h
      obtain rfl : i = 0 := by omega
      simp [hy]
def putV (l : List Int) (n : Int) : List Int := if n ∈ l then l else l.take (lead l n) ++ n :: l.drop (lead l n)
theorem put_cons (y n : Int) (l : List Int) (h : y < n) : putV (y :: l) n = y :: putV l n := by
  unfold putV
  have hne : n ≠ y := by omega
  simp only [List.mem_cons, hne, false_or, lead, if_pos h]
  split <;> simp
theorem put_facts : ∀ {l : List Int} {n : Int}, Up l → Up (putV l n) ∧ ∀ x, x ∈ putV l n ↔ x = n ∨ x ∈ l
  | [], n, _ => by simp [putV, lead, Up]
  | y :: l, n, hu => by
    have hu' := up_cons.1 hu
    by_cases h : y < n
    · obtain ⟨i1, i2⟩ := put_facts (n := n) hu'.2
      rw [put_cons y n l h]
      refine ⟨up_cons.2 ⟨fun z hz => ?_, i1⟩, fun x => ?_⟩
      · rcases (i2 z).1 hz with rfl | hz
        · exact h
        · exact hu'.1 z hz
      · rw [List.mem_cons, i2, List.mem_cons]
        constructor
        · rintro (h | h | h)
          · exact .inr (.inl h)
          · exact .inl h
          · exact .inr (.inr h)
        · rintro (h | h | h)
          · exact .inr (.inl h)
          · exact .inl h
          · exact .inr (.inr h)
    · unfold putV
      split
      · rename_i hm
        refine ⟨hu, fun x => ⟨fun h => .inr h, fun h => ?_⟩⟩
        rcases h with rfl | h
        · exact hm
        · exact h
      · rename_i hm
        have hne : n ≠ y := fun e => hm (by simp [e])
        simp only [lead, if_neg h, List.take_zero, List.drop_zero, List.nil_append]
        refine ⟨up_cons.2 ⟨fun z hz => ?_, hu⟩, fun x => by simp⟩
        rcases List.mem_cons.1 hz with rfl | hz
        · omega
        · have := hu'.1 z hz
          omega
theorem put_len (l : List Int) (n : Int) : (putV l n).length ≤ l.length + 1 := by
  unfold putV
  split
  · omega
  · have := lead_le l n
    simp
    omega
def putsV (l m : List Int) : List Int := m.foldl putV l
theorem puts_facts : ∀ (m : List Int) {l : List Int}, Up l → Up (putsV l m) ∧ ∀ x, x ∈ putsV l m ↔ x ∈ l ∨ x ∈ m
  | [], l, h => ⟨h, by simp [putsV]⟩
  | n :: m, l, h => by
    obtain ⟨h1, h2⟩ := put_facts (n := n) h
    obtain ⟨i1, i2⟩ := puts_facts m h1
    refine ⟨i1, fun x => ?_⟩
    have := i2 x
    unfold putsV at this ⊢
    rw [List.foldl_cons, this, h2, List.mem_cons]
    constructor
    · rintro ((h | h) | h)
      · exact .inr (.inl h)
      · exact .inl h
      · exact .inr (.inr h)
    · rintro (h | h | h)
      · exact .inl (.inr h)
      · exact .inl (.inl h)
      · exact .inr h
theorem puts_take (l m : List Int) (i : Nat) (h : i < m.length) : putsV l (m.take (i + 1)) = putV (putsV l (m.take i)) (m.getD i 0) := by
  unfold putsV
  rw [List.take_succ_eq_append_getElem h, List.foldl_append, List.getD_eq_getElem?_getD, List.getElem?_eq_getElem h]
  rfl
theorem puts_len : ∀ (m l : List Int), (putsV l m).length ≤ l.length + m.length
  | [], l => by simp [putsV]
  | n :: m, l => by
    have h1 := puts_len m (putV l n)
    have h2 := put_len l n
    unfold putsV at h1 ⊢
    rw [List.foldl_cons, List.length_cons]
    omega
/-- all numbers of a list, rising -/
def ofV (l : List Int) : List Int := putsV [] l
theorem of_facts (l : List Int) : Up (ofV l) ∧ ∀ x, x ∈ ofV l ↔ x ∈ l := by
  obtain ⟨h1, h2⟩ := puts_facts l up_nil
  exact ⟨h1, fun x => by rw [show ofV l = putsV [] l from rfl, h2]; simp⟩
theorem of_self {l : List Int} (h : Up l) : ofV l = l := up_ext (of_facts l).1 h (of_facts l).2
/-- those of a that are in b, or are not -/
def keptV (a b : List Int) (c : Bool) : List Int := a.filter fun x => decide (x ∈ b) == c
theorem kept_up {a : List Int} (h : Up a) (b : List Int) (c : Bool) : Up (keptV a b c) := List.Pairwise.sublist List.filter_sublist h
theorem union_eq {a b : List Int} (ha : Up a) (hb : Up b) : pickV (fun _ => true) (evs a b) = putsV (ofV a) b := by
  obtain ⟨h1, h2⟩ := puts_facts b (of_facts a).1
  refine up_ext (pick_up ha hb) h1 fun x => ?_
  rw [pick_mem ha hb, h2, (of_facts a).2]
  by_cases h3 : x ∈ a <;> by_cases h4 : x ∈ b <;> simp [h3, h4]
theorem common_eq {a b : List Int} (ha : Up a) (hb : Up b) : pickV (fun k => k == 1) (evs a b) = keptV a b true := by
  refine up_ext (pick_up ha hb) (kept_up ha b true) fun x => ?_
  rw [pick_mem ha hb]
  simp [keptV]
theorem less_eq {a b : List Int} (ha : Up a) (hb : Up b) : pickV (fun k => k == 0) (evs a b) = keptV a b false := by
  refine up_ext (pick_up ha hb) (kept_up ha b false) fun x => ?_
  rw [pick_mem ha hb]
  simp [keptV]
end Go.Proofs.YtbnohmbdfcapkaaDoor
