/- Contracts of Of (Clone, Sort, Compact), Has, Same and Within. -/
import Derived.Test.YtbnohmbdfcapkaaDoorMaSets
namespace Go.Proofs.YtbnohmbdfcapkaaDoor
open Go.RowKit Go.Lib Go.Joins Go.Sort

theorem compact_upto (d : Array Int) (hd : ∀ i j, i < j → j < d.size → d[i]! ≤ d[j]!) : ∀ m, m ≤ d.size → Up (compactUpTo d m) ∧ (∀ x ∈ compactUpTo d m, ∃ i, i < m ∧ x = d[i]!) ∧ ∀ i, i < m → d[i]! ∈ compactUpTo d m
  | 0, _ => ⟨by simp [compactUpTo, Up], by simp [compactUpTo], fun i hi => by omega⟩
  | m + 1, h => by
    obtain ⟨i1, i2, i3⟩ := compact_upto d hd m (by omega)
    rw [compactUpTo_succ]
    by_cases hk : keeps d m = true
    · rw [if_pos hk]
      refine ⟨List.pairwise_append.2 ⟨i1, by simp, fun x hx y hy => ?_⟩, fun x hx => ?_, fun i hi => ?_⟩
      · simp only [List.mem_singleton] at hy
        subst hy
        obtain ⟨i, hi, rfl⟩ := i2 x hx
        have hne : d[m]! ≠ d[m - 1]! := by
          simp only [keeps, decide_eq_true_eq] at hk
          exact hk.resolve_left (by omega)
        have h1 : d[i]! ≤ d[m - 1]! := by
          by_cases e : i = m - 1
          · rw [e]; omega
          · exact hd i (m - 1) (by omega) (by omega)
        have h2 := hd (m - 1) m (by omega) (by omega)
        omega
      · rcases List.mem_append.1 hx with hx | hx
        · obtain ⟨i, hi, e⟩ := i2 x hx
          exact ⟨i, by omega, e⟩
        · simp only [List.mem_singleton] at hx
          exact ⟨m, by omega, hx⟩
      · rw [List.mem_append]
        by_cases e : i = m
        · right; simp [e]
        · exact .inl (i3 i (by omega))
    · rw [if_neg hk, List.append_nil]
      refine ⟨i1, fun x hx => ?_, fun i hi => ?_⟩
      · obtain ⟨i, hi, e⟩ := i2 x hx
        exact ⟨i, by omega, e⟩
      · by_cases e : i = m
        · subst e
          simp only [keeps, decide_eq_true_eq, not_or, Decidable.not_not] at hk
          have := i3 (i - 1) (by omega)
          rw [← hk.2] at this
          exact this
        · exact i3 i (by omega)
theorem compact_len (d : Array Int) (m : Nat) : (compactUpTo d m).length ≤ m := by
  unfold compactUpTo
  rw [List.length_map]
  have := List.length_filter_le (keeps d) (List.range m)
  simpa using this
/-- sorted and compacted: all numbers, rising -/
theorem sorted_eq (zs : List Int) : Lib.compact (zs.mergeSort fun x y => decide (x ≤ y)) = ofV zs := by
  have hs : (zs.mergeSort fun x y => decide (x ≤ y)).Pairwise fun x y => x ≤ y := by
    have := List.pairwise_mergeSort (le := fun x y : Int => decide (x ≤ y)) (by intro a b c; simp; omega) (by intro a b; simp; omega) zs
    exact this.imp fun h => by simpa using h
  have hm : ∀ x, x ∈ (zs.mergeSort fun x y => decide (x ≤ y)) ↔ x ∈ zs := fun x => (List.mergeSort_perm zs _).mem_iff
  generalize (zs.mergeSort fun x y => decide (x ≤ y)) = l at *
  have hd : ∀ i j, i < j → j < l.toArray.size → l.toArray[i]! ≤ l.toArray[j]! := fun i j hij hj => by
    have hj' : j < l.length := by simpa using hj
    rw [getElem!_pos l.toArray i (by simp; omega), getElem!_pos l.toArray j hj]
    exact List.pairwise_iff_getElem.1 hs i j (by omega) hj' hij
  obtain ⟨h1, h2, h3⟩ := compact_upto l.toArray hd l.length (by simp)
  refine up_ext h1 (of_facts zs).1 fun x => ?_
  rw [(of_facts zs).2, ← hm]
  constructor
  · intro hx
    obtain ⟨i, hi, rfl⟩ := h2 x hx
    rw [getElem!_pos l.toArray i (by simpa using hi)]
    simp
  · intro hx
    obtain ⟨i, hi, rfl⟩ := List.getElem_of_mem hx
    have := h3 i hi
    rwa [getElem!_pos l.toArray i (by simpa using hi)] at this
theorem row_parts {w : World} {base g n cap : Nat} {l : List Int} (h : RowZ w base (.slice (some ⟨g, 0, none⟩) n cap) l) : ∃ cur, n = l.length ∧ base ≤ g ∧ w.heap[g]? = some (.cells cur 3 (0, 0)) ∧ l.length ≤ cap ∧ cap ≤ maxLen ∧ cur.size = cap * 1 ∧ cur.toList.take l.length = l.map (Value.int .i64) := by
  rcases h.2 with ⟨e, _⟩ | ⟨g', cap', cur, e, hb, hg, h1, h2, h3, h4⟩
  · cases e
  · simp only [Value.slice.injEq, Option.some.injEq, Addr.mk.injEq, and_true] at e
    obtain ⟨rfl, rfl, rfl⟩ := e
    exact ⟨cur, rfl, hb, hg, h1, h2, h3, by simpa using h4⟩
theorem sort_row {w : World} {base g n cap : Nat} {l : List Int} (h : RowZ w base (.slice (some ⟨g, 0, none⟩) n cap) l) (hl : l.length ≤ 100000) :
    Calls Tryd.prog 14 #[.slice (some ⟨g, 0, none⟩) n cap] w fun e w' => e = .returned (.tuple #[]) ∧ RowZ w' base (.slice (some ⟨g, 0, none⟩) n cap) (l.mergeSort fun x y => decide (x ≤ y)) ∧ w.grownBy w' (some g) := by
  obtain ⟨cur, rfl, hb, hg, h1, h2, h3, h4⟩ := row_parts h
  refine (Go.Proofs.Tryd.slices_Sort_int g 0 cap l w (holds_of_blockI hg h4) (Array.getElem?_eq_some_iff.1 hg).1 (by omega)).mono ?_
  rintro e w' ⟨rfl, q, os, rfl⟩
  have hlen : (l.mergeSort fun x y => decide (x ≤ y)).length = l.length := List.length_mergeSort l
  refine ⟨rfl, ?_, grownBy_sortedI _⟩
  have := ownsRow_sortedI (w := w) (n := q) (os := os) hlen hb hg h1 h2 h3
  unfold RowZ
  rw [hlen]
  exact this
theorem compact_row {w : World} {base g n cap : Nat} {l : List Int} (h : RowZ w base (.slice (some ⟨g, 0, none⟩) n cap) l) (hl : l.length ≤ 100000) :
    Calls Tryd.prog 15 #[.slice (some ⟨g, 0, none⟩) n cap] w fun e w' => (∃ v, e = .returned v ∧ RowZ w' base v (Lib.compact l)) ∧ w.grownBy w' (some g) := by
  obtain ⟨cur, rfl, hb, hg, h1, h2, h3, h4⟩ := row_parts h
  refine (Go.Proofs.Tryd.slices_Compact_int g 0 cap l w (holds_of_blockI hg h4) (by omega) h1).mono ?_
  rintro e w' ⟨rfl, q, rfl⟩
  have hc : (Lib.compact l).length ≤ l.length := compact_len _ _
  have hlen : (Lib.compact l ++ List.replicate (l.length - (Lib.compact l).length) 0).length = l.length := by simp; omega
  have hgr := grownBy_sortedI (w := w) (g := g) (n := q) (os := #[]) (Lib.compact l ++ List.replicate (l.length - (Lib.compact l).length) 0).toArray
  have hrow := ownsRow_sortedI (w := w) (n := q) (os := #[]) hlen hb hg h1 h2 h3
  rw [Go.Sort.grow_empty] at hgr hrow
  refine ⟨⟨_, rfl, ?_⟩, hgr⟩
  obtain ⟨cur', _, _, hg', h1', h2', h3', h4'⟩ := row_parts (l := Lib.compact l ++ List.replicate (l.length - (Lib.compact l).length) 0) (n := l.length) (cap := cap) (by unfold RowZ; rw [hlen]; exact hrow)
  refine ⟨by simp, .inr ⟨g, cap, cur', rfl, hb, hg', by omega, h2', h3', ?_⟩⟩
  have h5 := congrArg (List.take (Lib.compact l).length) h4'
  have hL : List.take (Lib.compact l).length ((Lib.compact l ++ List.replicate (l.length - (Lib.compact l).length) 0).map (Value.int .i64)) = (Lib.compact l).map (Value.int .i64) := by
    rw [List.map_append, List.take_append_of_le_length (by simp), List.take_of_length_le (by simp)]
  rw [hL, hlen, List.take_take, Nat.min_eq_left hc] at h5
  rw [Nat.mul_one]
  exact h5
theorem of_short {l : List Int} (h : l.length = 0) : ofV l = [] := by
  obtain rfl := List.eq_nil_of_length_eq_zero h
  rfl
set_option maxHeartbeats 2000000 in
set_option maxRecDepth 100000 in
theorem of_calls (w : World) (v : Value) (l : List Int) (h : RdZ w.heap.size w v l) (hl : l.length ≤ 100000) : Calls Tryd.prog 6 #[v] w (RetZ w (ofV l)) := by
  obtain ⟨a, cap, rfl, h1, h2, h3, h4⟩ := h
  by_cases h0 : l.length = 0
  · have HO := hidden (of_short h0)
    rw [h0]
    cases a with
    | none =>
      clear h3 h4 h1
      go_enter Tryd.func6, Tryd.ntmps6
      go_wp2_with fail
      refine (Go.Proofs.Tryd.slices_Clone_int_nil _ _ _).mono ?_
      rintro e w1 ⟨rfl, rfl⟩
      go_wp2_with fail
      refine (Go.Proofs.Tryd.slices_Sort_int_none _ _ _).mono ?_
      rintro e w1 ⟨rfl, rfl⟩
      go_wp2_with fail
      refine (Go.Proofs.Tryd.slices_Compact_int_empty _ _ _).mono ?_
      rintro e w1 ⟨rfl, rfl⟩
      go_wp2
      go_ret
      exact ⟨_, rfl, by rw [HO.out]; exact RowZ.nil _ _, Below.refl _ _⟩
    | some ad =>
      clear h3 h4 h1
      go_enter Tryd.func6, Tryd.ntmps6
      go_wp2_with fail
      refine (Go.Proofs.Tryd.slices_Clone_int_zero _ _ _).mono ?_
      rintro e w1 ⟨v, rfl, hr, _, hb1⟩
      have HR := hidden (show RowZ w1 w.heap.size v [] from hr)
      have HB := hidden hb1
      obtain ⟨a1, c1, rfl⟩ := HR.out.form
      clear hr hb1
      go_wp2_with fail
      refine (Go.Proofs.Tryd.slices_Sort_int_none _ _ _).mono ?_
      rintro e w1 ⟨rfl, rfl⟩
      go_wp2_with fail
      refine (Go.Proofs.Tryd.slices_Compact_int_empty _ _ _).mono ?_
      rintro e w1 ⟨rfl, rfl⟩
      go_wp2
      go_ret
      exact ⟨_, rfl, by rw [HO.out]; exact HR.out, HB.out⟩
  · obtain ⟨b, off, rfl, hlt, hc⟩ := h4 (by omega)
    have HC := hidden (Go.Proofs.Tryd.slices_Clone_int b off l.length cap l w (Nat.le_refl _) (by omega) hc)
    rw [List.take_of_length_le (Nat.le_refl _)] at HC
    have HE := hidden (sorted_eq l)
    have HSL := hidden (List.length_mergeSort (le := fun x y : Int => decide (x ≤ y)) l)
    clear h3 h4 h1 hc hlt
    go_enter Tryd.func6, Tryd.ntmps6
    go_wp2_with fail
    refine HC.out.mono ?_
    rintro e w1 ⟨v, rfl, hr, hnn, hb1⟩
    have HR := hidden (show RowZ w1 w.heap.size v l from hr)
    have HB := hidden hb1
    obtain ⟨g, c1, rfl⟩ : ∃ g c, v = .slice (some ⟨g, 0, none⟩) l.length c := by
      rcases ownsRow_forms hr with ⟨rfl, _⟩ | ⟨g, cap, rfl⟩
      · exact absurd rfl hnn
      · exact ⟨g, cap, rfl⟩
    clear hr hb1 hnn
    have HS := hidden (sort_row HR.out hl)
    have hgb := (row_parts HR.out).choose_spec.2.1
    obtain ⟨n, hn⟩ : ∃ n, n = l.length := ⟨_, rfl⟩
    rw [← hn] at HS ⊢
    have HN := hidden hn
    have HL := hidden hl
    clear hn h0 hl
    go_wp2_with fail
    refine HS.out.mono ?_
    rintro e w2 ⟨rfl, hr2, hg2⟩
    have HB2 := hidden (HB.out.grown hg2 HB.out.size (fun k e => by simp only [Option.some.injEq] at e; omega))
    have HC2 := hidden (compact_row hr2 (by rw [HSL.out]; exact HL.out))
    clear hr2 hg2
    go_wp2_with fail
    refine HC2.out.mono ?_
    rintro e w3 ⟨⟨v3, rfl, hr3⟩, hg3⟩
    have HB3 := hidden (HB2.out.grown hg3 HB2.out.size (fun k e => by simp only [Option.some.injEq] at e; omega))
    have HR3 := hidden hr3
    obtain ⟨a3, c3, rfl⟩ := hr3.form
    clear hr3 hg3
    go_wp2
    go_ret
    exact ⟨_, rfl, by rw [← HE.out]; exact HR3.out, HB3.out⟩
end Go.Proofs.YtbnohmbdfcapkaaDoor
