/- Contract of the program's stretches. -/
import Derived.Test.YtfnpepmbklclfaaDoorSetRuns
namespace Go.Proofs.YtfnpepmbklclfaaDoor
open Go.RowKit

theorem has_nat (f : Nat → Bool) (k : Nat) (w : World) (h1 : k < 256) :
    Calls Tryd.prog 20 #[(.agg #[.int .u64 (word (f) 0), .int .u64 (word (f) 1), .int .u64 (word (f) 2), .int .u64 (word (f) 3)]), .int .u8 k] w fun e w' => e = .returned (.bool (f k)) ∧ Below w.heap.size w w' := by
  have := has_calls f k w (by omega) (by omega)
  rwa [Int.toNat_natCast] at this
/-- the set that a block holds, for a measure -/
def cellNat (w : World) (B i : Nat) : Nat := match w.cell? ⟨B, i, none⟩ with
  | some (.int _ n) => n.toNat
  | _ => 0
def setOf (w : World) (B : Nat) : Nat → Bool := mem (cellNat w B 0) (cellNat w B 1) (cellNat w B 2) (cellNat w B 3)
theorem setOf_at {w : World} {B : Nat} {g : Nat → Bool} (h : SetAt w B g) (n : Nat) (hn : n < 256) : setOf w B n = g n := by
  obtain ⟨c0, c1, c2, c3, _⟩ := h.facts
  have e : setOf w B = mem (word g 0) (word g 1) (word g 2) (word g 3) := by
    unfold setOf cellNat
    rw [c0, c1, c2, c3]
    simp
  obtain ⟨m0, m1, m2, m3⟩ := word_mem (word_lt g 0) (word_lt g 1) (word_lt g 2) (word_lt g 3)
  rw [e]
  exact word_inj (fun i hi => match i, hi with
    | 0, _ => m0
    | 1, _ => m1
    | 2, _ => m2
    | 3, _ => m3) n hn
theorem fewer {g h : Nat → Bool} {a : Nat} (ha : a < 256) (hg : g a = true) (hlt : ∀ j, j < a → g j = false) (hh : h a = false) (hle : ∀ n, n < 256 → h n = true → g n = true) : (elems h).length < (elems g).length := by
  have e : elems g = a :: _ := filter_first g a hg hlt 256 ha
  rw [e, List.length_cons]
  have : (elems h).length ≤ ((List.range 256).filter fun j => g j && decide (j ≠ a)).length := by
    unfold elems
    rw [← List.countP_eq_length_filter, ← List.countP_eq_length_filter]
    refine List.countP_mono_left fun n hn hp => ?_
    have := hle n (List.mem_range.1 hn) hp
    rw [this]
    simp
    rintro rfl
    rw [hh] at hp
    cases hp
  omega
/-- what is left of a set when its first stretch is taken out -/
theorem taken (g : Nat → Bool) (a b : Nat) (n : Nat) : fMinus g (fSpan a b) n = without g a b n := by
  simp only [fMinus, fSpan, without]
  congr 2
  rw [Bool.eq_iff_iff]
  simp
theorem sameSet_true {g : Nat → Bool} (h : ¬ ∀ n, n < 256 → g n = false) : sameSet g fNone = false := by
  rw [Bool.eq_false_iff]
  exact fun h' => h fun n hn => (same_iff g fNone).1 h' n hn

theorem row_cell {w : World} {base B i : Nat} {e : TypeId} {size : Nat} {v : Value} {n : Nat} {xs : List Value} (h : w.ownsRow base e size v n xs) (hB : B < base) (u : Value) : (w.setCell ⟨B, i, none⟩ u).ownsRow base e size v n xs := by
  refine h.kept (row := some B) ⟨rfl, rfl, rfl, by simp [World.setCell], fun k _ hk => Below.heap_setCell _ _ _ _ fun e => hk (by rw [e])⟩ ?_
  cases hv : v.ownBlock with
  | none => exact .inl rfl
  | some k =>
    refine .inr fun e => ?_
    have := (h.lt k hv).1
    have := Option.some.inj e
    omega
theorem row_cells {w : World} {base B : Nat} {e : TypeId} {size : Nat} {v : Value} {n : Nat} {xs : List Value} (h : w.ownsRow base e size v n xs) (hB : B < base) (v0 v1 v2 v3 : Value) :
    ((((w.setCell ⟨B, 0, none⟩ v0).setCell ⟨B, 1, none⟩ v1).setCell ⟨B, 2, none⟩ v2).setCell ⟨B, 3, none⟩ v3).ownsRow base e size v n xs := row_cell (row_cell (row_cell (row_cell h hB v0) hB v1) hB v2) hB v3
theorem Tab.cell {w : World} {B i : Nat} (h : Tab w) (hB : 0 < B) (u : Value) : Tab (w.setCell ⟨B, i, none⟩ u) := fun j hj =>
  (World.cell?_of_block (Below.heap_setCell _ _ _ _ (Nat.ne_of_lt hB))).trans (h j hj)
theorem Tab.cells {w : World} {B : Nat} (h : Tab w) (hB : 0 < B) (v0 v1 v2 v3 : Value) :
    Tab ((((w.setCell ⟨B, 0, none⟩ v0).setCell ⟨B, 1, none⟩ v1).setCell ⟨B, 2, none⟩ v2).setCell ⟨B, 3, none⟩ v3) := (((h.cell hB v0).cell hB v1).cell hB v2).cell hB v3

set_option maxHeartbeats 2000000 in
set_option maxRecDepth 100000 in
theorem runs_calls (f : Nat → Bool) (w : World) (ht : Tab w) :
    Calls Tryd.prog 26 #[(.agg #[.int .u64 (word (f) 0), .int .u64 (word (f) 1), .int .u64 (word (f) 2), .int .u64 (word (f) 3)])] w (RetRow (w.heap.size + 1) 44 2 (runs f).length (pairsV (runs f)) w) := by
  obtain ⟨i0, hi, hz0, hz1, hz2⟩ := info_parts infoPair
  have HI := hidden hi
  have HZ := hidden (And.intro hz0 (And.intro hz1 hz2))
  have HT := hidden (ht.below ((Below.refl w.heap.size w).alloc (Nat.le_refl _) (.cells #[.int .u64 (word (f) 0), .int .u64 (word (f) 1), .int .u64 (word (f) 2), .int .u64 (word (f) 3)] 24)))
  have htl := cell_lt (ht 0 (by decide))
  have HQ := hidden (fun w g => eq_none w g)
  clear hi hz0 hz1 hz2 ht
  go_enter Tryd.func26, Tryd.ntmps26
  go_wp2
  go_loopw [3, 4, 5] (fun v _ _ wr => ∃ (g : Nat → Bool) (L : List (Nat × Nat)), L ++ runs g = runs f ∧ GotP L (w.heap.size + 1) v wr ∧ SetAt wr w.heap.size g ∧ Tab wr ∧ Below w.heap.size w wr) (fun _ _ _ wr => (elems (setOf wr w.heap.size)).length)
  case atStart =>
    exact ⟨f, [], rfl, ⟨rfl, .inl ⟨rfl, rfl⟩⟩, SetAt.new w f, HT.out, by go_grown⟩
  case round =>
    obtain ⟨g, L, hL, hG, hS, hT, hb⟩ := hrel
    have l1 := hS.lt
    obtain ⟨c0, c1, c2, c3, _, _, _, _⟩ := hS.facts
    have HS := hidden hS
    have HG := hidden hG
    have HTr := hidden hT
    have HL := hidden hL
    have hE := hidden (elems_congr (setOf_at hS))
    have hq := fun w => HQ.out w g
    clear hS hG hT hL
    by_cases hn : ∀ n, n < 256 → g n = false
    · have hs : sameSet g fNone = true := same_of fun n h => by rw [hn n h]; rfl
      rw [hs] at hq
      have HN := hidden (runs_none hn)
      clear hn hs
      go_wp2
      go_ret
      have e := HL.out
      rw [HN.out, List.append_nil] at e
      rw [← e]
      exact ⟨_, rfl, HG.out, hb⟩
    · rw [sameSet_true hn] at hq
      obtain ⟨a, ha, hga, hmin, hfirst⟩ := least g hn
      have HGA := hidden (And.intro hga (And.intro hmin hfirst))
      clear hn hga hmin hfirst
      go_wp2_with fail
      refine (first_calls g _ HTr.out).mono ?_
      rintro e w1 ⟨rfl, hb1⟩
      rw [HGA.out.2.2]
      have HS1 := hidden (HS.out.below hb1)
      have HG1 := hidden (row_below HG.out hb1)
      have HT1 := hidden (HTr.out.below hb1)
      have HB1 := hidden (below_then hb (by omega) hb1)
      have l2 := hb1.size
      clear hb1 HG HS hb HTr c0 c1 c2 c3
      go_wp2
      have hLl : L.length ≤ 256 := by
        have h1 := upRuns_len f 256
        rw [upRuns_all, ← HL.out, List.length_append] at h1
        omega
      go_loopw [5] (fun u wi => ∃ b : Nat, a ≤ b ∧ b < 256 ∧ u = .int .i64 b ∧ lastR g b = lastR g a ∧ GotP L (w.heap.size + 1) u3 wi ∧ SetAt wi w.heap.size g ∧ Tab wi ∧ Below w.heap.size w wi) (fun u _ => 256 - (intOf u).toNat)
      case atStart => exact ⟨a, Nat.le_refl _, ha, rfl, rfl, HG1.out, HS1.out, HT1.out, HB1.out⟩
      case round =>
        obtain ⟨b, hkb, hb256, rfl, hlast, hG3, hS3, hT3, hB3⟩ := hrel
        obtain ⟨c0, c1, c2, c3, _, _, _, _⟩ := hS3.facts
        have l3 := hS3.lt
        have HG3 := hidden hG3
        have HS3 := hidden hS3
        have HT3 := hidden hT3
        have HB3 := hidden hB3
        have HLa := hidden hlast
        clear hG3 hS3 hT3 hB3 hlast
        by_cases hmore : b < 255 ∧ g (b + 1) = true
        · have hb255 := hmore.1
          have hfb := hmore.2
          have hwr3 : IntKind.u8.wrap ((b : Int) + 1) = ((b + 1 : Nat) : Int) := by rw [IntKind.wrap_u8]; omega
          clear hmore
          go_wp2_with fail
          refine (has_nat g (b + 1) _ (by omega)).mono ?_
          rintro e w3 ⟨rfl, hb3⟩
          rw [hfb]
          have HS4 := hidden (HS3.out.below hb3)
          have HG4 := hidden (row_below HG3.out hb3)
          have HT4 := hidden (HT3.out.below hb3)
          have HB4 := hidden (below_then HB3.out (by omega) hb3)
          clear hb3
          go_wp2
          refine ⟨⟨b + 1, by omega, by omega, by go_num, ?_, HG4.out, HS4.out, HT4.out, HB4.out⟩, by simp [intOf]; omega⟩
          rw [← HLa.out, lastR_more hb255 hfb]
        · have hend := lastR_end hmore
          have hEn := hidden (hend.symm.trans HLa.out)
          clear hend
          by_cases hb255 : b < 255
          case' pos =>
            have hwr3 : IntKind.u8.wrap ((b : Int) + 1) = ((b + 1 : Nat) : Int) := by rw [IntKind.wrap_u8]; omega
            have hfb : g (b + 1) = false := by
              cases h : g (b + 1)
              · rfl
              · exact absurd ⟨hb255, h⟩ hmore
            clear hmore
            go_wp2_with fail
            refine (has_nat g (b + 1) _ (by omega)).mono ?_
            rintro e w3 ⟨rfl, hb3⟩
            rw [hfb]
            have HS4 := hidden (HS3.out.below hb3)
            have HG4 := hidden (row_below HG3.out hb3)
            have HT4 := hidden (HT3.out.below hb3)
            have HB4 := hidden (below_then HB3.out (by omega) hb3)
            clear hb3 c0 c1 c2 c3
          case' neg =>
            clear hmore
            obtain ⟨w3, rfl⟩ : ∃ w3 : World, w3 = wr := ⟨_, rfl⟩
            have HS4 := HS3
            have HG4 := HG3
            have HT4 := HT3
            have HB4 := HB3
            clear c0 c1 c2 c3
          all_goals
            have K3 := hidden (show L.length + 1 ≤ maxLen by unfold maxLen; omega)
            have K4 := hidden (show (L.length + 1) * 16 ≤ 140737488355328 by omega)
            have K5 := hidden (show w.heap.size + 1 ≤ (w3.alloc (.cells #[.int .i64 a, .int .i64 b] 44)).heap.size by have := HB4.out.size; simp; omega)
            go_wp2_with (at_builtin; refine wpList_append_own _ rfl _ _ 41 rfl (w.heap.size + 1) 44 i0 (.agg #[.int .i64 0, .int .i64 0]) 2 16 Tryd.underlying41 HI.out HZ.out.1 HZ.out.2.1 HZ.out.2.2 rfl (by decide) _ _ _ rfl (HG4.out.alloc _) ⟨w3.heap.size, 0, none⟩ 1 1 [.int .i64 a, .int .i64 b] rfl rfl (fun j u hj => news_two hj) one_two K3.out K4.out K5.out ?_)
            intro v5 w5 hown5 hgrow5 _
            have HO := hidden (HG4.out.alloc (.cells #[.int .i64 a, .int .i64 b] 44))
            have HR := hidden (gotP_more (p := (a, b)) hown5)
            have HS5 := hidden ((HS4.out.alloc (.cells #[.int .i64 a, .int .i64 b] 44)).grown HO.out hgrow5 (Nat.lt_succ_self _))
            have HT5 := hidden ((HT4.out.below ((Below.refl w3.heap.size w3).alloc (Nat.le_refl _) (.cells #[.int .i64 a, .int .i64 b] 44))).grown HO.out hgrow5 (by omega))
            have HB5 := hidden (below_grown (HB4.out.alloc HB4.out.size (.cells #[.int .i64 a, .int .i64 b] 44)) HO.out hgrow5 (Nat.le_succ _) (by have := HB4.out.size; simp; omega))
            have l5 := HB5.out.size
            have hW5 := HS5.out.lt
            obtain ⟨c0, c1, c2, c3, f0, f1, f2, f3⟩ := HS5.out.facts
            clear hown5 hgrow5
            go_wp2
            go_region_with (first
              | (go_at_call 10; refine (span_calls a b _).mono ?_; rintro e w6 ⟨rfl, hb6⟩; have HS6 := hidden (HS5.out.drew.below hb6); have HR6 := hidden (row_below HR.out.drew hb6); have HT6 := hidden (HT5.out.drew.below hb6); have HB6 := hidden (below_then HB5.out.drew (by simp; omega) hb6); have l6 := hb6.size; simp at l6; clear hb6; obtain ⟨d0, d1, d2, d3, g0, g1, g2, g3⟩ := HS6.out.facts)
              | (go_at_call 17; refine (minus_calls g (fSpan a b) _).mono ?_; rintro e w7 ⟨rfl, hb7⟩; have HS7 := hidden (HS6.out.below hb7); have HR7 := hidden (row_below HR6.out hb7); have HT7 := hidden (HT6.out.below hb7); have HB7 := hidden (below_then HB6.out (by omega) hb7); clear hb7; obtain ⟨d0, d1, d2, d3, g0, g1, g2, g3⟩ := HS7.out.facts))
            all_goals
              go_wp2
              refine ⟨⟨fMinus g (fSpan a b), L ++ [(a, b)], ?_, row_cells HR7.out (Nat.lt_succ_self _) _ _ _ _, HS7.out.stored, HT7.out.cells (by omega) _ _ _ _, below_cells HB7.out _ (Nat.le_refl _) _ _ _ _⟩, ?_⟩
              · rw [runs_congr fun n _ => taken g a b n, List.append_assoc, ← HL.out, runs_step g a ha HGA.out.1 HGA.out.2.1, ← hEn.out]
                rfl
              · rw [hE.out, elems_congr (setOf_at HS7.out.stored)]
                refine fewer ha HGA.out.1 HGA.out.2.1 ?_ fun n _ hn => ?_
                · rw [taken]
                  simp [without, hkb]
                · rw [taken] at hn
                  simp [without] at hn
                  exact hn.1
end Go.Proofs.YtfnpepmbklclfaaDoor
