/- FaUsed, RxConcat, put together. -/
import Derived.Test.YthkboclooplpeaaGreatDoorRf42
import Derived.Test.YthkboclooplpeaaGreatDoorRf08
import Derived.Lib.AppendZerosOnto
/- Contract of the reference's used, at the steps of a tree; of First and Used. -/
namespace Go.Proofs.YthkboclooplpeaaGreatDoor
open Go.RowKit Go.Lib Go.Joins

section
variable {b off cap : Nat} {L : List Stp}
set_option maxHeartbeats 8000000 in
set_option maxRecDepth 100000 in
theorem rusTwo {i j y l : Nat} {k z : Int} {f g r : Nat → Bool} (hi : i < L.length) (hk : (L.getD i default).k = k) (hj : j + 1 = i) (hy : l + 1 = y) (hl : L.length ≤ 1000) (hyl : y ≤ 1000)
    (hr : (k = 4 ∧ r = f2 f g) ∨ (k = 3 ∧ z < 0 ∧ r = fNone) ∨ (k = 3 ∧ 0 ≤ z ∧ r = f2 f g))
    (HA : TellsS b off cap L 63 l f) (HC : TellsS b off cap L 63 j g) (HB : Begins b off cap L j y) (HZ : Tells b off cap L 53 i z) :
    TellsS b off cap L 63 i r := by
  intro w h
  have h' := h.below ((Below.refl w.heap.size w).alloc (Nat.le_refl _) (.cells #[.int .u64 0, .int .u64 0, .int .u64 0, .int .u64 0] 33))
  have c0 := h'.kind hi hk
  have HL := hidden h'
  have HCC := hidden (HC _ h')
  have HAA := hidden HA
  have HBB := hidden HB
  have HZZ := hidden HZ
  unfold TellsS at HAA
  unfold Begins at HBB
  unfold Tells at HZZ
  have hsub : IntKind.i64.wrap ((i : Int) - 1) = j := by rw [IntKind.wrap_i64]; omega
  have hsub2 : IntKind.i64.wrap ((y : Int) - 1) = l := by rw [IntKind.wrap_i64]; omega
  have hbl := h.1
  have HN := hidden (SetAt.newNone w w.heap.size rfl)
  have HTW := hidden (fun w => two_calls 0 f g w (.inl rfl))
  generalize L.length = n at *
  clear h h' hk hj HA HC HB HZ hy
  rcases hr with ⟨rfl, hr⟩ | ⟨rfl, h1, hr⟩ | ⟨rfl, h1, hr⟩
  · have HR := hidden hr
    clear hr
    go_enter Tryz.func63, Tryz.ntmps63
    go_wp2_with fail
    refine HCC.out.mono ?_
    rintro e w1 ⟨rfl, hb1⟩
    have HR1 := hidden (HN.out.below hb1)
    have HB1 := hidden (below_then ((Below.refl w.heap.size w).alloc (Nat.le_refl _) _) (by simp) hb1)
    have hba := (Below.refl w1.heap.size w1).alloc (Nat.le_refl _) (.cells #[.int .u64 (word (g) 0), .int .u64 (word (g) 1), .int .u64 (word (g) 2), .int .u64 (word (g) 3)] 33)
    have HLa := hidden ((HL.out.below hb1).below hba)
    have HRa := hidden (SetAt.alloc HR1.out (.cells #[.int .u64 (word (g) 0), .int .u64 (word (g) 1), .int .u64 (word (g) 2), .int .u64 (word (g) 3)] 33))
    have HGa := hidden (SetAt.new w1 g)
    have HBa := hidden (below_then HB1.out HB1.out.size hba)
    obtain ⟨e0, e1, e2, e3, f0, f1, f2', f3⟩ := HR1.out.facts
    have hlt := HR1.out.lt
    clear hb1 hba
    have key := hidden (show ∀ w2, Below (w1.alloc (.cells #[.int .u64 (word (g) 0), .int .u64 (word (g) 1), .int .u64 (word (g) 2), .int .u64 (word (g) 3)] 33)).drew.heap.size (w1.alloc (.cells #[.int .u64 (word (g) 0), .int .u64 (word (g) 1), .int .u64 (word (g) 2), .int .u64 (word (g) 3)] 33)).drew w2 → SetAt w2 w.heap.size fNone ∧ SetAt w2 w1.heap.size g ∧ Below w.heap.size w w2 from fun w2 hb2 =>
      ⟨SetAt.below (show SetAt (w1.alloc (.cells #[.int .u64 (word (g) 0), .int .u64 (word (g) 1), .int .u64 (word (g) 2), .int .u64 (word (g) 3)] 33)).drew w.heap.size fNone from HRa.out) hb2, SetAt.below (show SetAt (w1.alloc (.cells #[.int .u64 (word (g) 0), .int .u64 (word (g) 1), .int .u64 (word (g) 2), .int .u64 (word (g) 3)] 33)).drew w1.heap.size g from HGa.out) hb2, below_then HBa.out.drew (show w.heap.size ≤ (w1.alloc (.cells #[.int .u64 (word (g) 0), .int .u64 (word (g) 1), .int .u64 (word (g) 2), .int .u64 (word (g) 3)] 33)).drew.heap.size from HBa.out.size) hb2⟩)
    have key3 := hidden (show ∀ w2 w3, SetAt w2 w.heap.size fNone ∧ SetAt w2 w1.heap.size g ∧ Below w.heap.size w w2 → Below w2.heap.size w2 w3 → SetAt w3 w.heap.size fNone ∧ Below w.heap.size w w3 from fun w2 w3 h2 h3 => ⟨SetAt.below h2.1 h3, below_then h2.2.2 h2.2.2.size h3⟩)
    have HLd := hidden (show Lay b off L (w1.alloc (.cells #[.int .u64 (word (g) 0), .int .u64 (word (g) 1), .int .u64 (word (g) 2), .int .u64 (word (g) 3)] 33)).drew from HLa.out)
    go_wp2
    go_region_with (first
      | (go_at_call 84; refine (HBB.out _ HLd.out).mono ?_; rintro e w2 ⟨rfl, rfl⟩)
      | (go_at_call 63; refine (HAA.out _ HLd.out).mono ?_; rintro e w2 ⟨rfl, hb2⟩; have HK := hidden (key.out w2 hb2); obtain ⟨g0, g1, g2, g3, _, _, _, _⟩ := SetAt.facts HK.out.2.1; clear hb2)
      | (go_at_call 92; refine (HTW.out _).mono ?_; rintro e w3 ⟨rfl, hb3⟩; have HK3 := hidden (key3.out _ _ HK.out hb3); obtain ⟨q0, q1, q2, q3, r0, r1, r2, r3⟩ := SetAt.facts HK3.out.1; clear hb3))
    all_goals
      go_wp2
      exact ret_setAt Tryz.results63 rfl rfl (SetAt.stored (f := fNone) (g := fTwo 0 f g) HK3.out.1) (fun n hn => by rw [HR.out, two0]; rfl) ⟨rfl, below_cells HK3.out.2 _ (Nat.le_refl _) _ _ _ _⟩
  · have HR := hidden hr
    have d1 : decide (z < 0) = true := decide_eq_true h1
    clear hr h1
    go_enter Tryz.func63, Tryz.ntmps63
    go_wp2_with fail
    refine HCC.out.mono ?_
    rintro e w1 ⟨rfl, hb1⟩
    have HR1 := hidden (HN.out.below hb1)
    have HB1 := hidden (below_then ((Below.refl w.heap.size w).alloc (Nat.le_refl _) _) (by simp) hb1)
    have hba := (Below.refl w1.heap.size w1).alloc (Nat.le_refl _) (.cells #[.int .u64 (word (g) 0), .int .u64 (word (g) 1), .int .u64 (word (g) 2), .int .u64 (word (g) 3)] 33)
    have HLa := hidden ((HL.out.below hb1).below hba)
    have HRa := hidden (SetAt.alloc HR1.out (.cells #[.int .u64 (word (g) 0), .int .u64 (word (g) 1), .int .u64 (word (g) 2), .int .u64 (word (g) 3)] 33))
    have HGa := hidden (SetAt.new w1 g)
    have HBa := hidden (below_then HB1.out HB1.out.size hba)
    obtain ⟨e0, e1, e2, e3, f0, f1, f2', f3⟩ := HR1.out.facts
    have hlt := HR1.out.lt
    clear hb1 hba
    go_wp2_with fail
    refine (HZZ.out _ HLa.out).mono ?_
    rintro e w3 ⟨rfl, rfl⟩
    go_wp2
    refine ret_setAt Tryz.results63 rfl rfl (SetAt.alloc (f := fNone) ?_ _) (fun n hn => by rw [HR.out]) ⟨rfl, (below_cells HB1.out _ (Nat.le_refl _) _ _ _ _).alloc (by have := HB1.out.size; simpa [World.setCell] using this) _⟩
    have := SetAt.stored (f := fNone) (g := fNone) HR1.out
    simp only [word_none_i] at this
    exact this
  · have HR := hidden hr
    have d1 : decide (z < 0) = false := decide_eq_false (by omega)
    clear hr h1
    go_enter Tryz.func63, Tryz.ntmps63
    go_wp2_with fail
    refine HCC.out.mono ?_
    rintro e w1 ⟨rfl, hb1⟩
    have HR1 := hidden (HN.out.below hb1)
    have HB1 := hidden (below_then ((Below.refl w.heap.size w).alloc (Nat.le_refl _) _) (by simp) hb1)
    have hba := (Below.refl w1.heap.size w1).alloc (Nat.le_refl _) (.cells #[.int .u64 (word (g) 0), .int .u64 (word (g) 1), .int .u64 (word (g) 2), .int .u64 (word (g) 3)] 33)
    have HLa := hidden ((HL.out.below hb1).below hba)
    have HRa := hidden (SetAt.alloc HR1.out (.cells #[.int .u64 (word (g) 0), .int .u64 (word (g) 1), .int .u64 (word (g) 2), .int .u64 (word (g) 3)] 33))
    have HGa := hidden (SetAt.new w1 g)
    have HBa := hidden (below_then HB1.out HB1.out.size hba)
    obtain ⟨e0, e1, e2, e3, f0, f1, f2', f3⟩ := HR1.out.facts
    have hlt := HR1.out.lt
    clear hb1 hba
    go_wp2_with fail
    refine (HZZ.out _ HLa.out).mono ?_
    rintro e w3 ⟨rfl, rfl⟩
    have key := hidden (show ∀ w2, Below (w1.alloc (.cells #[.int .u64 (word (g) 0), .int .u64 (word (g) 1), .int .u64 (word (g) 2), .int .u64 (word (g) 3)] 33)).drew.heap.size (w1.alloc (.cells #[.int .u64 (word (g) 0), .int .u64 (word (g) 1), .int .u64 (word (g) 2), .int .u64 (word (g) 3)] 33)).drew w2 → SetAt w2 w.heap.size fNone ∧ SetAt w2 w1.heap.size g ∧ Below w.heap.size w w2 from fun w2 hb2 =>
      ⟨SetAt.below (show SetAt (w1.alloc (.cells #[.int .u64 (word (g) 0), .int .u64 (word (g) 1), .int .u64 (word (g) 2), .int .u64 (word (g) 3)] 33)).drew w.heap.size fNone from HRa.out) hb2, SetAt.below (show SetAt (w1.alloc (.cells #[.int .u64 (word (g) 0), .int .u64 (word (g) 1), .int .u64 (word (g) 2), .int .u64 (word (g) 3)] 33)).drew w1.heap.size g from HGa.out) hb2, below_then HBa.out.drew (show w.heap.size ≤ (w1.alloc (.cells #[.int .u64 (word (g) 0), .int .u64 (word (g) 1), .int .u64 (word (g) 2), .int .u64 (word (g) 3)] 33)).drew.heap.size from HBa.out.size) hb2⟩)
    have key3 := hidden (show ∀ w2 w3, SetAt w2 w.heap.size fNone ∧ SetAt w2 w1.heap.size g ∧ Below w.heap.size w w2 → Below w2.heap.size w2 w3 → SetAt w3 w.heap.size fNone ∧ Below w.heap.size w w3 from fun w2 w3 h2 h3 => ⟨SetAt.below h2.1 h3, below_then h2.2.2 h2.2.2.size h3⟩)
    have HLd := hidden (show Lay b off L (w1.alloc (.cells #[.int .u64 (word (g) 0), .int .u64 (word (g) 1), .int .u64 (word (g) 2), .int .u64 (word (g) 3)] 33)).drew from HLa.out)
    go_wp2
    go_region_with (first
      | (go_at_call 84; refine (HBB.out _ HLd.out).mono ?_; rintro e w2 ⟨rfl, rfl⟩)
      | (go_at_call 63; refine (HAA.out _ HLd.out).mono ?_; rintro e w2 ⟨rfl, hb2⟩; have HK := hidden (key.out w2 hb2); obtain ⟨g0, g1, g2, g3, _, _, _, _⟩ := SetAt.facts HK.out.2.1; clear hb2)
      | (go_at_call 92; refine (HTW.out _).mono ?_; rintro e w3 ⟨rfl, hb3⟩; have HK3 := hidden (key3.out _ _ HK.out hb3); obtain ⟨q0, q1, q2, q3, r0, r1, r2, r3⟩ := SetAt.facts HK3.out.1; clear hb3))
    all_goals
      go_wp2
      exact ret_setAt Tryz.results63 rfl rfl (SetAt.stored (f := fNone) (g := fTwo 0 f g) HK3.out.1) (fun n hn => by rw [HR.out, two0]; rfl) ⟨rfl, below_cells HK3.out.2 _ (Nat.le_refl _) _ _ _ _⟩
theorem rused (hl : L.length ≤ 1000) : ∀ (e : Ex), e.ok → ∀ (x z : List Stp) (i : Nat), L = x ++ ops e ++ z → i + 1 = x.length + (ops e).length → TellsS b off cap L 63 i (rusE e)
  | .set f, _, x, z, i, hL, hi => by
    have he := set_end hL hi
    exact rfiLeaf _ (.inr rfl) (at_end hL hi).1 (at_end hL hi).2 (.inl rfl) (by rw [he]; rfl) (by rw [he]; rfl) (by rw [he]; rfl) (by rw [he]; rfl)
  | .emp, _, x, z, i, hL, hi => by
    have he := emp_end hL hi
    exact rfiLeaf _ (.inr rfl) (at_end hL hi).1 (at_end hL hi).2 (.inr rfl) (by rw [he]; exact (word_none_i 0).symm) (by rw [he]; exact (word_none_i 1).symm) (by rw [he]; exact (word_none_i 2).symm) (by rw [he]; exact (word_none_i 3).symm)
  | .un k a, ⟨hk, ha⟩, x, z, i, hL, hi => by
    obtain ⟨h1, h2⟩ := at_end hL hi
    have hp := ops_pos a
    have hlen : (ops (.un k a)).length = (ops a).length + 1 := by simp [ops]
    exact rfiUn _ (.inr rfl) (j := i - 1) h1 h2 hk (by omega) hl (rused hl a ha x ([kStp k] ++ z) (i - 1) (by rw [hL]; simp [ops]) (by omega))
  | .cat a c, ⟨ha, hc⟩, x, z, i, hL, hi => by
    obtain ⟨h1, h2⟩ := at_end hL hi
    obtain ⟨⟨p1, p2⟩, ⟨p3, p4⟩, p5, p6, p7⟩ := two_parts (k := 3) (a := a) (c := c) rfl hL hi
    refine rusTwo (b := b) (off := off) (cap := cap) h1 h2 p5 p6 hl (by omega) ?_ (rused hl a ha _ _ _ p3 p4) (rused hl c hc _ _ _ p1 p2) (begins hc hl p1 p2) (rshort hl (.cat a c) ⟨ha, hc⟩ x z i hL hi)
    by_cases c1 : shE (.cat a c) < 0
    · exact .inr (.inl ⟨rfl, c1, by simp only [rusE]; rw [if_pos c1]⟩)
    · exact .inr (.inr ⟨rfl, by omega, by simp only [rusE]; rw [if_neg c1]; rfl⟩)
  | .alt a c, ⟨ha, hc⟩, x, z, i, hL, hi => by
    obtain ⟨h1, h2⟩ := at_end hL hi
    obtain ⟨⟨p1, p2⟩, ⟨p3, p4⟩, p5, p6, p7⟩ := two_parts (k := 4) (a := a) (c := c) rfl hL hi
    exact rusTwo (b := b) (off := off) (cap := cap) h1 h2 p5 p6 hl (by omega) (.inl ⟨rfl, rfl⟩) (rused hl a ha _ _ _ p3 p4) (rused hl c hc _ _ _ p1 p2) (begins hc hl p1 p2) (rshort hl (.alt a c) ⟨ha, hc⟩ x z i hL hi)
end
set_option maxHeartbeats 4000000 in
set_option maxRecDepth 100000 in
theorem rFirst_calls {C : Nat → Prop} {v0 : Value} {L : List Stp} {w : World} (h : SlX C w v0 L) (hC : ∀ b, C b → b < w.heap.size) (hwd : ∀ s ∈ L, s.wide) :
    Calls Tryz.prog 20 #[v0] w fun e w' => e = .returned (.agg #[.int .u64 (word (if (measV L).2 = 0 then rfiE (treeE L) else fNone) 0), .int .u64 (word (if (measV L).2 = 0 then rfiE (treeE L) else fNone) 1), .int .u64 (word (if (measV L).2 = 0 then rfiE (treeE L) else fNone) 2), .int .u64 (word (if (measV L).2 = 0 then rfiE (treeE L) else fNone) 3)]) ∧ Below w.heap.size w w' := by
  have hba := (Below.refl w.heap.size w).alloc (Nat.le_refl _) (.cells #[.int .u64 0, .int .u64 0, .int .u64 0, .int .u64 0] 33)
  have HC := rcheck_slX (h.below (C' := fun b => b < (w.alloc (.cells #[.int .u64 0, .int .u64 0, .int .u64 0, .int .u64 0] 33)).heap.size) fun b hb => ⟨Nat.lt_of_lt_of_le (hC b hb) hba.size, hba.block b (hC b hb)⟩)
  have HN := hidden (SetAt.newNone w w.heap.size rfl)
  by_cases hz : (measV L).2 = 0
  · rw [hz] at HC
    obtain ⟨h512, hE⟩ := meas_expr hz
    have hpos := expr_ne hE
    obtain ⟨_, hok, hops⟩ := tree_of hE hwd
    obtain ⟨a, cap, rfl, hl, hcap, _, hS⟩ := h
    obtain ⟨b, off, rfl, hCb, hc⟩ := hS.2 hpos
    obtain ⟨m, hm⟩ : ∃ m, m = L.length - 1 := ⟨_, rfl⟩
    have HT := hidden (rfirst (b := b) (off := off) (cap := cap) (L := L) (by omega) (treeE L) hok [] [] m (by rw [hops]; simp) (by rw [hops, hm]; simp; omega) _ (Lay.below (⟨hC b hCb, hc⟩ : Lay b off L w) hba))
    obtain ⟨r, hr⟩ : ∃ r, r = rfiE (treeE L) := ⟨_, rfl⟩
    have hr2 : (if (measV L).2 = 0 then rfiE (treeE L) else fNone) = r := by rw [if_pos hz, hr]
    rw [hr2]
    rw [← hr] at HT
    have HCC := hidden HC
    have hsub : IntKind.i64.wrap ((L.length : Int) - 1) = m := by rw [IntKind.wrap_i64]; omega
    generalize L.length = n at *
    clear HC hz hE hok hops hS hc hC hCb hm hwd hr hr2 hba
    go_enter Tryz.func20, Tryz.ntmps20
    go_wp2_with fail
    refine HCC.out.mono ?_
    rintro e w1 ⟨rfl, rfl⟩
    go_wp2_with fail
    refine HT.out.mono ?_
    rintro e w1 ⟨rfl, hb⟩
    have HR := hidden (HN.out.below hb)
    have HB := hidden (below_then ((Below.refl w.heap.size w).alloc (Nat.le_refl _) _) (by simp) hb)
    obtain ⟨e0, e1, e2, e3, f0, f1, f2', f3⟩ := HR.out.facts
    clear hb
    go_wp2
    exact ret_setAt Tryz.results20 rfl rfl (SetAt.stored (f := fNone) (g := r) HR.out) (fun n hn => rfl) ⟨rfl, below_cells HB.out _ (Nat.le_refl _) _ _ _ _⟩
  · have hr2 : (if (measV L).2 = 0 then rfiE (treeE L) else fNone) = fNone := by rw [if_neg hz]
    rw [hr2]
    have HCC := hidden HC
    have q1 : ((measV L).2 != 0) = true := by simpa using hz
    generalize (measV L).2 = z at *
    obtain ⟨a, cap, rfl, _⟩ := h
    clear HC hz hr2 hba
    go_enter Tryz.func20, Tryz.ntmps20
    go_wp2_with fail
    refine HCC.out.mono ?_
    rintro e w1 ⟨rfl, rfl⟩
    go_wp2
    refine ret_setAt Tryz.results20 rfl rfl HN.out (fun n hn => rfl) ⟨rfl, (Below.refl _ _).alloc (Nat.le_refl _) _⟩
set_option maxHeartbeats 4000000 in
set_option maxRecDepth 100000 in
theorem rUsed_calls {C : Nat → Prop} {v0 : Value} {L : List Stp} {w : World} (h : SlX C w v0 L) (hC : ∀ b, C b → b < w.heap.size) (hwd : ∀ s ∈ L, s.wide) :
    Calls Tryz.prog 22 #[v0] w fun e w' => e = .returned (.agg #[.int .u64 (word (if (measV L).2 = 0 then rusE (treeE L) else fNone) 0), .int .u64 (word (if (measV L).2 = 0 then rusE (treeE L) else fNone) 1), .int .u64 (word (if (measV L).2 = 0 then rusE (treeE L) else fNone) 2), .int .u64 (word (if (measV L).2 = 0 then rusE (treeE L) else fNone) 3)]) ∧ Below w.heap.size w w' := by
  have hba := (Below.refl w.heap.size w).alloc (Nat.le_refl _) (.cells #[.int .u64 0, .int .u64 0, .int .u64 0, .int .u64 0] 33)
  have HC := rcheck_slX (h.below (C' := fun b => b < (w.alloc (.cells #[.int .u64 0, .int .u64 0, .int .u64 0, .int .u64 0] 33)).heap.size) fun b hb => ⟨Nat.lt_of_lt_of_le (hC b hb) hba.size, hba.block b (hC b hb)⟩)
  have HN := hidden (SetAt.newNone w w.heap.size rfl)
  by_cases hz : (measV L).2 = 0
  · rw [hz] at HC
    obtain ⟨h512, hE⟩ := meas_expr hz
    have hpos := expr_ne hE
    obtain ⟨_, hok, hops⟩ := tree_of hE hwd
    obtain ⟨a, cap, rfl, hl, hcap, _, hS⟩ := h
    obtain ⟨b, off, rfl, hCb, hc⟩ := hS.2 hpos
    obtain ⟨m, hm⟩ : ∃ m, m = L.length - 1 := ⟨_, rfl⟩
    have HT := hidden (rused (b := b) (off := off) (cap := cap) (L := L) (by omega) (treeE L) hok [] [] m (by rw [hops]; simp) (by rw [hops, hm]; simp; omega) _ (Lay.below (⟨hC b hCb, hc⟩ : Lay b off L w) hba))
    obtain ⟨r, hr⟩ : ∃ r, r = rusE (treeE L) := ⟨_, rfl⟩
    have hr2 : (if (measV L).2 = 0 then rusE (treeE L) else fNone) = r := by rw [if_pos hz, hr]
    rw [hr2]
    rw [← hr] at HT
    have HCC := hidden HC
    have hsub : IntKind.i64.wrap ((L.length : Int) - 1) = m := by rw [IntKind.wrap_i64]; omega
    generalize L.length = n at *
    clear HC hz hE hok hops hS hc hC hCb hm hwd hr hr2 hba
    go_enter Tryz.func22, Tryz.ntmps22
    go_wp2_with fail
    refine HCC.out.mono ?_
    rintro e w1 ⟨rfl, rfl⟩
    go_wp2_with fail
    refine HT.out.mono ?_
    rintro e w1 ⟨rfl, hb⟩
    have HR := hidden (HN.out.below hb)
    have HB := hidden (below_then ((Below.refl w.heap.size w).alloc (Nat.le_refl _) _) (by simp) hb)
    obtain ⟨e0, e1, e2, e3, f0, f1, f2', f3⟩ := HR.out.facts
    clear hb
    go_wp2
    exact ret_setAt Tryz.results22 rfl rfl (SetAt.stored (f := fNone) (g := r) HR.out) (fun n hn => rfl) ⟨rfl, below_cells HB.out _ (Nat.le_refl _) _ _ _ _⟩
  · have hr2 : (if (measV L).2 = 0 then rusE (treeE L) else fNone) = fNone := by rw [if_neg hz]
    rw [hr2]
    have HCC := hidden HC
    have q1 : ((measV L).2 != 0) = true := by simpa using hz
    generalize (measV L).2 = z at *
    obtain ⟨a, cap, rfl, _⟩ := h
    clear HC hz hr2 hba
    go_enter Tryz.func22, Tryz.ntmps22
    go_wp2_with fail
    refine HCC.out.mono ?_
    rintro e w1 ⟨rfl, rfl⟩
    go_wp2
    refine ret_setAt Tryz.results22 rfl rfl HN.out (fun n hn => rfl) ⟨rfl, (Below.refl _ _).alloc (Nat.le_refl _) _⟩
end Go.Proofs.YthkboclooplpeaaGreatDoor

/- Contracts of slices.Grow at no steps, slices.Concat at steps; Star, Plus, Opt. -/
namespace Go.Proofs.YthkboclooplpeaaGreatDoor
open Go.RowKit Go.Lib Go.Joins

set_option maxHeartbeats 1000000 in
theorem grow_none (w : World) (n : Nat) (hn0 : 0 < n) (hn : n ≤ 1000000) :
    Calls Tryz.prog 94 #[.slice none 0 0, .int .i64 n] w (RetX w []) := by
  obtain ⟨i0, hi, hz0, hz1, hz2⟩ := info_parts infoRx
  have hold : (Builtin.firstCells i0.size 0 (.slice none 0 0)).run Tryz.prog w.drew = .ok ([] : List Value).toArray w.drew := run_firstCells_none w.drew i0.size 0 0 0
  have hrz : ∀ ty, (Builtin.append_ #[22, 3] ty #[.slice none 0 0, .int .i64 n]).run Tryz.prog w =
      .ok (.slice (some ⟨w.heap.size, 0, none⟩) n (grownCap w n 0 73)) (w.drew.alloc (.cells (([] : List Value).toArray ++ Builtin.zeroCells (kStp 0).val.cells n ++ Builtin.zeroCells (kStp 0).val.cells (grownCap w n 0 73 - n)) 73)) := fun ty => by
    have h := Lib.run_append_grow_zeros w 22 3 ty 73 i0 (kStp 0).val .i64 .i64 Tryz.underlying22 Tryz.underlying3 hi hz0 none 0 0 [] hold n (by omega) (by omega) (by omega) (by omega)
      (by rw [hz2]; omega) (by rw [hz2]; exact growslice_fits (by omega) (by omega))
    simpa using h
  have hGn : n ≤ grownCap w n 0 73 := grownCap_ge w _ _ _
  have hGm : grownCap w n 0 73 ≤ maxLen := grownCap_le_maxLen w n 0 73 (by unfold maxLen; omega)
  generalize grownCap w n 0 73 = G at *
  have e5 : (kStp 0).val.cells.size = 5 := rfl
  have R : RetX w [] (.returned (.slice (some ⟨w.heap.size, 0, none⟩) 0 G)) (w.drew.alloc (.cells (([] : List Value).toArray ++ Builtin.zeroCells (kStp 0).val.cells n ++ Builtin.zeroCells (kStp 0).val.cells (G - n)) 73)) := by
    refine ⟨_, rfl, World.ownsRow_made (base := w.heap.size) (size := 5) w.drew _ G (Nat.le_refl _) hGm ?_, ?_⟩
    · simp [size_zeroCells, e5]
      omega
    · exact ((Below.refl w.heap.size w).drew).alloc (Nat.le_refl _) _
  generalize ([] : List Value).toArray ++ Builtin.zeroCells (kStp 0).val.cells n ++ Builtin.zeroCells (kStp 0).val.cells (G - n) = Rw at *
  have HR := hidden R
  have hG63 : G ≤ 9223372036854775807 := hGm
  clear R hold hGm hi hz0 hz1 hz2
  go_enter Tryz.func94, Tryz.ntmps94
  go_wp2_with (at_builtin; refine Lib.wpList_append_run _ rfl _ _ _ _ rfl _ _ rfl rfl _ _ (hrz _) ?_)
  all_goals (go_ret; exact HR.out)

/-! ### slices.Concat -/
def ct : List (List Stp) → List Stp
  | [] => []
  | x :: r => x ++ ct r
theorem ct_append : ∀ a b, ct (a ++ b) = ct a ++ ct b
  | [], b => rfl
  | x :: r, b => by simp [ct, ct_append r b]
theorem ct_take (LL : List (List Stp)) (j : Nat) (h : j < LL.length) : ct (LL.take (j + 1)) = ct (LL.take j) ++ LL.getD j [] := by
  rw [take_moreL LL j h, ct_append]
  simp [ct]
theorem ct_le (LL : List (List Stp)) (j : Nat) : (ct (LL.take j)).length ≤ (ct LL).length := by
  have := ct_append (LL.take j) (LL.drop j)
  rw [List.take_append_drop] at this
  rw [this]
  simp
theorem ret_mk {w wr : World} {L : List Stp} {v : Value} (h : Mk w w.heap.size L v wr) : RetX w L (.returned v) wr := ⟨v, rfl, h.1, h.2.1⟩
set_option maxHeartbeats 4000000 in
set_option maxRecDepth 100000 in
theorem concat_calls {C : Nat → Prop} (w : World) (v : Value) (LL : List (List Stp)) (h : SlXs C w v LL) (hC : ∀ b, C b → b < w.heap.size) (hsz : (ct LL).length ≤ 1000000) (hpos : 0 < (ct LL).length) :
    Calls Tryz.prog 65 #[v] w (RetX w (ct LL)) := by
  obtain ⟨a, cap, rfl, h1, h2, hS⟩ := h
  obtain ⟨m, hm⟩ : ∃ m, m = LL.length := ⟨_, rfl⟩
  rw [← hm] at h1 hS ⊢
  have HS := hidden hS
  have HM := hidden hm
  have HK := hidden (fun (W : World) (hb : Below w.heap.size w W) c hc => (⟨trivial, hb.block c (hC c hc)⟩ : True ∧ W.heap[c]? = w.heap[c]?))
  unfold maxLen at h2
  clear hS hm
  go_enter Tryz.func65, Tryz.ntmps65
  go_wp2
  go_loopw [3, 11] (fun s i wr => ∃ j : Nat, j ≤ m ∧ i = .int .i64 j ∧ s = .int .i64 ((ct (LL.take j)).length : Nat) ∧ w = wr) (fun _ i _ => m - (intOf i).toNat)
  case atStart => exact ⟨0, by omega, rfl, rfl, rfl⟩
  case round =>
    obtain ⟨j, hj, rfl, rfl, rfl⟩ := hrel
    by_cases hlt : j < m
    · obtain ⟨b, off, rfl, hCb, hc⟩ := HS.out.2 (by omega)
      obtain ⟨y, hy, hyx⟩ := hc j hlt
      have hmL : j < LL.length := by rw [← HM.out]; exact hlt
      have hle := ct_le LL (j + 1)
      have HN := hidden (ct_take LL j hmL)
      rw [HN.out, List.length_append] at hle
      obtain ⟨ya, yc, rfl, _⟩ := hyx
      clear hc
      have HL : Hid ((ct (LL.take (j + 1))).length = (ct (LL.take j)).length + (LL.getD j []).length) := hidden (by rw [HN.out, List.length_append])
      generalize (ct (LL.take j)).length = n1 at *
      generalize (LL.getD j []).length = n2 at *
      have hd : decide ((n1 : Int) + n2 < 0) = false := decide_eq_false (by omega)
      go_wp2
      go_roundw
      case rel => exact ⟨j + 1, by omega, by go_num, by rw [HL.out]; go_num, trivial⟩
      case measure => simp [intOf]; omega
    · obtain rfl : j = m := by omega
      have HG := hidden (fun w => grow_none w (ct LL).length hpos hsz)
      rw [List.take_of_length_le (by rw [HM.out]; exact Nat.le_refl _)] at *
      go_wp2_with fail
      refine (HG.out _).mono ?_
      rintro e w1 ⟨u, rfl, hr, hb⟩
      have HJ0 := hidden (show Mk w w.heap.size [] u w1 from ⟨hr, hb, hb.size⟩)
      clear hr hb
      go_wp2
      go_loopw [6, 27] (fun o i wr => ∃ i' : Nat, i' ≤ j ∧ i = .int .i64 i' ∧ Mk w w.heap.size (ct (LL.take i')) o wr) (fun _ i _ => j - (intOf i).toNat)
      case atStart => exact ⟨0, by omega, rfl, HJ0.out⟩
      case round =>
        obtain ⟨i, hi, rfl, hmk⟩ := hrel
        have HJ := hidden hmk
        clear hmk
        by_cases hlt : i < j
        · obtain ⟨b, off, rfl, hCb, hc⟩ := HS.out.2 (by omega)
          obtain ⟨y, hy, hyx⟩ := hc i hlt
          have hy' : wr.cell? ⟨b, off + i, none⟩ = some y := (HJ.out.2.1.cell (p := ⟨b, off + i, none⟩) (hC b hCb)).trans hy
          have HY := hidden (SlX.below (w' := wr) (C' := fun _ => True) hyx (HK.out wr HJ.out.2.1))
          have hle := ct_le LL (i + 1)
          have HN := hidden (ct_take LL i (by rw [← HM.out]; exact hlt))
          rw [HN.out, List.length_append] at hle
          clear hc hyx hy
          go_wp2_with (at_builtin; refine append_rx rfl rfl _ _ rfl w.heap.size _ _ _ _ rfl HJ.out.1 rfl HY.out (by omega) HJ.out.2.2 ?_; intro a' l' c' w2 hr1 hg1; have HJ1 := hidden (HJ.out.grown (Nat.le_refl _) hr1 hg1); clear hr1 hg1)
          go_roundw
          case rel => exact ⟨i + 1, by omega, by go_num, by rw [HN.out]; exact HJ1.out⟩
          case measure => simp [intOf]; omega
        · obtain rfl : i = j := by omega
          rw [List.take_of_length_le (by rw [HM.out]; exact Nat.le_refl _)] at HJ
          go_wp2
          go_ret
          exact ret_mk HJ.out

/-! ### one step behind an expression -/
theorem row_slice {w : World} {base : Nat} {v : Value} {L : List Stp} (h : RowX w base v L) : ∃ a l c, v = .slice a l c := by
  rcases ownsRow_forms h with ⟨rfl, _⟩ | ⟨g, cap, rfl⟩
  · exact ⟨_, _, _, rfl⟩
  · exact ⟨_, _, _, rfl⟩
theorem two_slXs {C : Nat → Prop} {w w1 : World} {v u : Value} {L M : List Stp} (h : SlX C w v L) (hC : ∀ b, C b → b < w.heap.size) (hr : RowX w1 w.heap.size u M) (hb : Below w.heap.size w w1) :
    SlXs (fun b => b ≤ w1.heap.size) (w1.alloc (.cells #[v, u] 22)) (.slice (some ⟨w1.heap.size, 0, none⟩) 2 2) [L, M] ∧ (∀ b, b ≤ w1.heap.size → b < (w1.alloc (.cells #[v, u] 22)).heap.size) ∧ Below w.heap.size w (w1.alloc (.cells #[v, u] 22)) := by
  have hs := hb.size
  refine ⟨⟨_, 2, rfl, Nat.le_refl _, by decide, rfl, fun _ => ⟨w1.heap.size, 0, rfl, Nat.le_refl _, fun i hi => ?_⟩⟩, fun b hb => by simp; omega, hb.alloc hs _⟩
  have hg := heap_alloc_new w1 (.cells #[v, u] 22)
  rw [Nat.zero_add]
  match i, hi with
  | 0, _ => exact ⟨v, cell_of_row _ _ 0 _ _ _ hg, h.below fun b hb' => ⟨by have := hC b hb'; omega, (heap_alloc_old w1 _ (by have := hC b hb'; omega)).trans (hb.block b (hC b hb'))⟩⟩
  | 1, _ => exact ⟨u, cell_of_row _ _ 1 _ _ _ hg, SlX.below hr.reads fun b hb' => ⟨by omega, heap_alloc_old w1 _ hb'.2⟩⟩
theorem ret_two_x {w W w2 : World} {u : Value} {L M : List Stp} (h : Below w.heap.size w W) (hr : RowX w2 W.heap.size u (ct [L, M])) (hb : Below W.heap.size W w2) : RowX w2 w.heap.size u (L ++ M) ∧ Below w.heap.size w w2 := by
  refine ⟨?_, below_after h hb⟩
  have := hr.lower h.size
  simpa [ct] using this
set_option maxRecDepth 100000 in
theorem starx_calls {C : Nat → Prop} (w : World) (v : Value) (L : List Stp) (h : SlX C w v L) (hC : ∀ b, C b → b < w.heap.size) (hsz : L.length ≤ 900000) :
    Calls Tryz.prog 24 #[v] w (RetX w (L ++ [kStp 5])) := by
  have HV := hidden h
  have HC := hidden hC
  obtain ⟨a, cap, rfl, _⟩ := h
  clear hC
  go_enter Tryz.func24, Tryz.ntmps24
  go_wp2_with fail
  refine (step_rx _ _).mono ?_
  rintro e w1 ⟨u, rfl, hr, hb⟩
  have HR := hidden hr
  have HB := hidden hb
  clear hr hb
  obtain ⟨a1, n1, c1, rfl⟩ := row_slice HR.out
  have H2 := hidden (two_slXs HV.out HC.out HR.out HB.out)
  go_wp2_with fail
  refine (concat_calls _ _ _ H2.out.1 H2.out.2.1 (by simp [ct]; omega) (by simp [ct])).mono ?_
  rintro e w2 ⟨u2, rfl, hr2, hb2⟩
  have HE := hidden (ret_two_x H2.out.2.2 hr2 hb2)
  clear hr2 hb2
  obtain ⟨a3, n3, c3, rfl⟩ := row_slice HE.out.1
  go_wp2
  go_ret
  exact ⟨_, rfl, HE.out.1, HE.out.2⟩
set_option maxRecDepth 100000 in
theorem plusx_calls {C : Nat → Prop} (w : World) (v : Value) (L : List Stp) (h : SlX C w v L) (hC : ∀ b, C b → b < w.heap.size) (hsz : L.length ≤ 900000) :
    Calls Tryz.prog 27 #[v] w (RetX w (L ++ [kStp 6])) := by
  have HV := hidden h
  have HC := hidden hC
  obtain ⟨a, cap, rfl, _⟩ := h
  clear hC
  go_enter Tryz.func27, Tryz.ntmps27
  go_wp2_with fail
  refine (step_rx _ _).mono ?_
  rintro e w1 ⟨u, rfl, hr, hb⟩
  have HR := hidden hr
  have HB := hidden hb
  clear hr hb
  obtain ⟨a1, n1, c1, rfl⟩ := row_slice HR.out
  have H2 := hidden (two_slXs HV.out HC.out HR.out HB.out)
  go_wp2_with fail
  refine (concat_calls _ _ _ H2.out.1 H2.out.2.1 (by simp [ct]; omega) (by simp [ct])).mono ?_
  rintro e w2 ⟨u2, rfl, hr2, hb2⟩
  have HE := hidden (ret_two_x H2.out.2.2 hr2 hb2)
  clear hr2 hb2
  obtain ⟨a3, n3, c3, rfl⟩ := row_slice HE.out.1
  go_wp2
  go_ret
  exact ⟨_, rfl, HE.out.1, HE.out.2⟩
set_option maxRecDepth 100000 in
theorem optx_calls {C : Nat → Prop} (w : World) (v : Value) (L : List Stp) (h : SlX C w v L) (hC : ∀ b, C b → b < w.heap.size) (hsz : L.length ≤ 900000) :
    Calls Tryz.prog 28 #[v] w (RetX w (L ++ [kStp 7])) := by
  have HV := hidden h
  have HC := hidden hC
  obtain ⟨a, cap, rfl, _⟩ := h
  clear hC
  go_enter Tryz.func28, Tryz.ntmps28
  go_wp2_with fail
  refine (step_rx _ _).mono ?_
  rintro e w1 ⟨u, rfl, hr, hb⟩
  have HR := hidden hr
  have HB := hidden hb
  clear hr hb
  obtain ⟨a1, n1, c1, rfl⟩ := row_slice HR.out
  have H2 := hidden (two_slXs HV.out HC.out HR.out HB.out)
  go_wp2_with fail
  refine (concat_calls _ _ _ H2.out.1 H2.out.2.1 (by simp [ct]; omega) (by simp [ct])).mono ?_
  rintro e w2 ⟨u2, rfl, hr2, hb2⟩
  have HE := hidden (ret_two_x H2.out.2.2 hr2 hb2)
  clear hr2 hb2
  obtain ⟨a3, n3, c3, rfl⟩ := row_slice HE.out.1
  go_wp2
  go_ret
  exact ⟨_, rfl, HE.out.1, HE.out.2⟩
end Go.Proofs.YthkboclooplpeaaGreatDoor
