/- SetList, SetRuns, SetRunsP, BackMath, put together. -/
import Derived.Test.YthiiinbkkjacbaaDoorRt04
import Derived.Laws.MakeOwn
/- Contract of the program's list of a set's bytes. -/
namespace Go.Proofs.YthiiinbkkjacbaaDoor
open Go.RowKit

theorem grown_below {w w' : World} (h : w.grownBy w' none) : Below w.heap.size w w' := ⟨h.os, h.tape, h.output, h.size, fun k hk => h.block k hk (by simp)⟩
theorem and_pred (x : Nat) (h : x < 18446744073709551616) : bits .and .u64 (x : Int) (IntKind.u64.wrap ((x : Int) - 1)) = ((x &&& (x - 1) : Nat) : Int) := by
  by_cases h0 : x = 0
  · subst h0
    decide
  · have e : IntKind.u64.wrap ((x : Int) - 1) = ((x - 1 : Nat) : Int) := by rw [IntKind.wrap_u64]; omega
    rw [e, u64_and_nat x _ h (by omega)]
/-- the bytes of the first k words -/
def upWords (f : Nat → Bool) : Nat → List Nat
  | 0 => []
  | k + 1 => upWords f k ++ bitsOf k (word f k)
theorem upWords_len (f : Nat → Bool) : ∀ k, (upWords f k).length ≤ 64 * k
  | 0 => by simp [upWords]
  | k + 1 => by
    have := upWords_len f k
    have h := bitsOf_length k (word f k)
    have h2 := pop_le 64 (word f k)
    rw [upWords, List.length_append]
    omega
theorem upWords_four (f : Nat → Bool) : upWords f 4 = elems f := by
  rw [elems_words]
  simp [upWords]
def Got (L : List Nat) (base : Nat) (v : Value) (w : World) : Prop := w.ownsRow base 5 1 v L.length (L.map byteV)
theorem got_more {L : List Nat} {m base : Nat} {v : Value} {w : World} (hw : w.ownsRow base 5 1 v (L.length + 1) (L.map byteV ++ [.int .u8 m])) : Got (L ++ [m]) base v w := by
  unfold Got
  simpa [byteV] using hw

theorem Tab.grown {w w' : World} {base : Nat} {e : TypeId} {size : Nat} {v : Value} {n : Nat} {xs : List Value} (h : Tab w) (hown : w.ownsRow base e size v n xs) (hg : w.grownBy w' v.ownBlock) (hB : 1 < base) : Tab w' := fun j hj =>
  (World.cell?_of_block (hg.block _ (cell_lt (h j hj)) fun e => by have h2 := (hown.lt _ e.symm).1; exact absurd h2 (Nat.not_le.2 hB))).trans (h j hj)

end Go.Proofs.YthiiinbkkjacbaaDoor

/- Contract of the reference's stretches. -/
namespace Go.Proofs.YthiiinbkkjacbaaDoor
open Go.RowKit

def pairV (p : Nat × Nat) : List Value := [.int .i64 p.1, .int .i64 p.2]
def pairsV (L : List (Nat × Nat)) : List Value := L.flatMap pairV
theorem infoPair : (Tryd.prog.info? 70).map (fun i => (i.zero, i.size, i.bytes)) = some (some (.agg #[.int .i64 0, .int .i64 0]), 2, 16) := by kernel_rfl
/-- the stretches that begin below k -/
def upRuns (f : Nat → Bool) (k : Nat) : List (Nat × Nat) := ((List.range k).filter (start f)).map fun b => (b, lastR f b)
theorem upRuns_all (f : Nat → Bool) : upRuns f 256 = runs f := rfl
theorem upRuns_more {f : Nat → Bool} {k : Nat} (h : start f k = true) : upRuns f (k + 1) = upRuns f k ++ [(k, lastR f k)] := by
  unfold upRuns
  rw [← take_more (start f) k h, List.map_append]
  rfl
theorem upRuns_same {f : Nat → Bool} {k : Nat} (h : start f k = false) : upRuns f (k + 1) = upRuns f k := by
  unfold upRuns
  rw [← take_same (start f) k h]
theorem upRuns_len (f : Nat → Bool) (k : Nat) : (upRuns f k).length ≤ k := by
  have := filter_le (start f) k
  simpa [upRuns] using this
/-- pairs got so far, in a row of the call's own -/
def GotP (L : List (Nat × Nat)) (base : Nat) (v : Value) (w : World) : Prop := w.ownsRow base 70 2 v L.length (pairsV L)
theorem gotP_more {L : List (Nat × Nat)} {p : Nat × Nat} {base : Nat} {v : Value} {w : World} (hw : w.ownsRow base 70 2 v (L.length + 1) (pairsV L ++ [.int .i64 p.1, .int .i64 p.2])) : GotP (L ++ [p]) base v w := by
  unfold GotP pairsV
  rw [List.flatMap_append, List.length_append]
  simpa [pairV, pairsV] using hw
theorem news_two {w : World} {x y u : Value} {t : TypeId} {j : Nat} (hj : [x, y][j]? = some u) : (w.alloc (.cells #[x, y] t)).cell? ((⟨w.heap.size, 0, none⟩ : Addr).add j) = some u := by
  match j, hj with
  | 0, hj =>
    simp at hj
    subst hj
    rw [Addr.add_lit, World.cell?_alloc_at _ _ _ _ rfl]
    rfl
  | 1, hj =>
    simp at hj
    subst hj
    rw [Addr.add_lit, World.cell?_alloc_at _ _ _ _ rfl]
    rfl
theorem one_two {x y : Int} (u : Value) (hu : u ∈ [Value.int .i64 x, Value.int .i64 y]) : u.oneCell' = true := by
  simp at hu
  rcases hu with rfl | rfl <;> rfl

set_option maxHeartbeats 2000000 in
set_option maxRecDepth 100000 in
theorem rruns_calls (f : Nat → Bool) (w : World) :
    Calls Tryd.prog 53 #[(.agg #[.int .u64 (word (f) 0), .int .u64 (word (f) 1), .int .u64 (word (f) 2), .int .u64 (word (f) 3)])] w (RetRow (w.heap.size + 1) 70 2 (runs f).length (pairsV (runs f)) w) := by
  obtain ⟨i0, hi, hz0, hz1, hz2⟩ := info_parts infoPair
  have HI := hidden hi
  have HZ := hidden (And.intro hz0 (And.intro hz1 hz2))
  clear hi hz0 hz1 hz2
  go_enter Tryd.func53, Tryd.ntmps53
  go_wp2
  go_loopw [3, 4, 5] (fun v i _ wr => ∃ k : Nat, k ≤ 256 ∧ i = .int .i64 k ∧ GotP (upRuns f k) (w.heap.size + 1) v wr ∧ SetAt wr w.heap.size f ∧ Below w.heap.size w wr) (fun _ i _ _ => 256 - (intOf i).toNat)
  case atStart =>
    exact ⟨0, by omega, rfl, ⟨rfl, .inr ⟨_, 0, #[], rfl, Nat.le_refl _, heap_alloc2_new _ _ _, Nat.le_refl _, by decide, rfl, rfl⟩⟩, (SetAt.new w f).alloc _, by go_grown⟩
  case round =>
    obtain ⟨k, hk, rfl, hG, hS, hb⟩ := hrel
    have l1 := hS.lt
    by_cases hlt : k < 256
    · obtain ⟨c0, c1, c2, c3, _, _, _, _⟩ := hS.facts
      have HS := hidden hS
      have HG := hidden hG
      clear hS hG
      have hwr : IntKind.u8.wrap (k : Int) = k := by rw [IntKind.wrap_u8]; omega
      have hd : decide ((k : Int) < 256) = true := by simp; omega
      go_wp2_with fail
      refine (rhas_nat f k _ (by omega)).mono ?_
      rintro e w1 ⟨rfl, hb1⟩
      have HS1 := hidden (HS.out.below hb1)
      have HG1 := hidden (row_below HG.out hb1)
      have HB1 := hidden (below_then hb (by omega) hb1)
      have l2 := hb1.size
      clear hb1 HG HS hb c0 c1 c2 c3
      cases hf : f k
      · have HN := hidden (upRuns_same (f := f) (k := k) (by simp [start, hf]))
        go_wp2
        refine ⟨⟨k + 1, by omega, by go_num, ?_, HS1.out, HB1.out⟩, by simp [intOf]; omega⟩
        rw [HN.out]
        exact HG1.out
      · by_cases hC : 0 < k ∧ f (k - 1) = true
        · have HN := hidden (upRuns_same (f := f) (k := k) (by simp [start, hC.2]; omega))
          have hk0 : (0 : Int) < k := by omega
          have hwr2 : IntKind.u8.wrap ((k : Int) - 1) = ((k - 1 : Nat) : Int) := by rw [IntKind.wrap_u8]; omega
          obtain ⟨c0, c1, c2, c3, _, _, _, _⟩ := HS1.out.facts
          have hf2 := hC.2
          go_wp2_with fail
          refine (rhas_nat f (k - 1) _ (by omega)).mono ?_
          rintro e w2 ⟨rfl, hb2⟩
          rw [hf2]
          have HS2 := hidden (HS1.out.below hb2)
          have HG2 := hidden (row_below HG1.out hb2)
          have HB2 := hidden (below_then HB1.out (by omega) hb2)
          clear hb2
          go_wp2
          refine ⟨⟨k + 1, by omega, by go_num, ?_, HS2.out, HB2.out⟩, by simp [intOf]; omega⟩
          rw [HN.out]
          exact HG2.out
        · have HN := hidden (upRuns_more (f := f) (k := k) (by
            by_cases h0 : k = 0
            · subst h0
              simp [start, hf]
            · have : f (k - 1) = false := by
                cases h : f (k - 1)
                · rfl
                · exact absurd ⟨by omega, h⟩ hC
              simp [start, hf, this]))
          by_cases h0 : k = 0
          case' pos =>
            have hk0 : (k : Int) ≤ 0 := by omega
            have H0 := hidden h0
            clear h0 hC
            obtain ⟨w2, rfl⟩ : ∃ w2 : World, w2 = w1 := ⟨_, rfl⟩
            have HS2 := HS1
            have HG2 := HG1
            have HB2 := HB1
            have hdg : decide ((0 : Int) < k) = false := by simp; omega
            go_wp2
          case' neg =>
            have hk0 : (0 : Int) < k := by omega
            have hwr2 : IntKind.u8.wrap ((k : Int) - 1) = ((k - 1 : Nat) : Int) := by rw [IntKind.wrap_u8]; omega
            obtain ⟨c0, c1, c2, c3, _, _, _, _⟩ := HS1.out.facts
            have hf2 : f (k - 1) = false := by
              cases h : f (k - 1)
              · rfl
              · exact absurd ⟨by omega, h⟩ hC
            clear h0 hC
            go_wp2_with fail
            refine (rhas_nat f (k - 1) _ (by omega)).mono ?_
            rintro e w2 ⟨rfl, hb2⟩
            rw [hf2]
            have HS2 := hidden (HS1.out.below hb2)
            have HG2 := hidden (row_below HG1.out hb2)
            have HB2 := hidden (below_then HB1.out (by omega) hb2)
            clear hb2 c0 c1 c2 c3
            have hdg : decide ((0 : Int) < k) = true := by simp; omega
            go_wp2
          all_goals
            go_loopw [5] (fun u wi => ∃ b : Nat, k ≤ b ∧ b < 256 ∧ u = .int .i64 b ∧ lastR f b = lastR f k ∧ GotP (upRuns f k) (w.heap.size + 1) u3 wi ∧ SetAt wi w.heap.size f ∧ Below w.heap.size w wi) (fun u _ => 256 - (intOf u).toNat)
            case atStart => exact ⟨k, Nat.le_refl _, hlt, rfl, rfl, HG2.out, HS2.out, HB2.out⟩
            case round =>
              obtain ⟨b, hkb, hb256, rfl, hlast, hG3, hS3, hB3⟩ := hrel
              obtain ⟨c0, c1, c2, c3, _, _, _, _⟩ := hS3.facts
              have l3 := hS3.lt
              have HG3 := hidden hG3
              have HS3 := hidden hS3
              have HB3 := hidden hB3
              have HLa := hidden hlast
              clear hG3 hS3 hB3 hlast
              by_cases hmore : b < 255 ∧ f (b + 1) = true
              · have hb255 := hmore.1
                have hfb := hmore.2
                have hwr3 : IntKind.u8.wrap ((b : Int) + 1) = ((b + 1 : Nat) : Int) := by rw [IntKind.wrap_u8]; omega
                clear hmore
                go_wp2_with fail
                refine (rhas_nat f (b + 1) _ (by omega)).mono ?_
                rintro e w3 ⟨rfl, hb3⟩
                rw [hfb]
                have HS4 := hidden (HS3.out.below hb3)
                have HG4 := hidden (row_below HG3.out hb3)
                have HB4 := hidden (below_then HB3.out (by omega) hb3)
                clear hb3
                go_wp2
                refine ⟨⟨b + 1, by omega, by omega, by go_num, ?_, HG4.out, HS4.out, HB4.out⟩, by simp [intOf]; omega⟩
                rw [← HLa.out, lastR_more hb255 hfb]
              · have hend := lastR_end hmore
                have hEn := hidden (hend.symm.trans HLa.out)
                clear hend
                by_cases hb255 : b < 255
                case' pos =>
                  have hwr3 : IntKind.u8.wrap ((b : Int) + 1) = ((b + 1 : Nat) : Int) := by rw [IntKind.wrap_u8]; omega
                  have hfb : f (b + 1) = false := by
                    cases h : f (b + 1)
                    · rfl
                    · exact absurd ⟨hb255, h⟩ hmore
                  clear hmore
                  go_wp2_with fail
                  refine (rhas_nat f (b + 1) _ (by omega)).mono ?_
                  rintro e w3 ⟨rfl, hb3⟩
                  rw [hfb]
                  have HS4 := hidden (HS3.out.below hb3)
                  have HG4 := hidden (row_below HG3.out hb3)
                  have HB4 := hidden (below_then HB3.out (by omega) hb3)
                  clear hb3 c0 c1 c2 c3
                case' neg =>
                  clear hmore
                  obtain ⟨w3, rfl⟩ : ∃ w3 : World, w3 = wr := ⟨_, rfl⟩
                  have HS4 := HS3
                  have HG4 := HG3
                  have HB4 := HB3
                all_goals
                  have hle := upRuns_len f k
                  have K3 := hidden (show (upRuns f k).length + 1 ≤ maxLen by unfold maxLen; omega)
                  have K4 := hidden (show ((upRuns f k).length + 1) * 16 ≤ 140737488355328 by omega)
                  have K5 := hidden (show w.heap.size + 1 ≤ (w3.alloc (.cells #[.int .i64 k, .int .i64 b] 70)).heap.size by have := HB4.out.size; simp; omega)
                  go_wp2_with (at_builtin; refine wpList_append_own _ rfl _ _ 68 rfl (w.heap.size + 1) 70 i0 (.agg #[.int .i64 0, .int .i64 0]) 2 16 Tryd.underlying68 HI.out HZ.out.1 HZ.out.2.1 HZ.out.2.2 rfl (by decide) _ _ _ rfl (HG4.out.alloc _) ⟨w3.heap.size, 0, none⟩ 1 1 [.int .i64 k, .int .i64 b] rfl rfl (fun j u hj => news_two hj) one_two K3.out K4.out K5.out ?_)
                  intro v5 w5 hown5 hgrow5 _
                  have HO := hidden (HG4.out.alloc (.cells #[.int .i64 k, .int .i64 b] 70))
                  have HR := hidden hown5
                  have HS5 := hidden ((HS4.out.alloc (.cells #[.int .i64 k, .int .i64 b] 70)).grown HO.out hgrow5 (Nat.lt_succ_self _))
                  have HB5 := hidden (below_grown (HB4.out.alloc HB4.out.size (.cells #[.int .i64 k, .int .i64 b] 70)) HO.out hgrow5 (Nat.le_succ _) (by have := HB4.out.size; simp; omega))
                  clear hown5 hgrow5
                  go_wp2
                  refine ⟨⟨k + 1, by omega, by go_num, ?_, HS5.out, HB5.out⟩, by simp [intOf]; omega⟩
                  rw [HN.out, ← hEn.out]
                  exact gotP_more HR.out
    · have e : k = 256 := by omega
      subst e
      have HG := hidden hG
      clear hG hS
      go_wp2
      go_ret
      rw [upRuns_all] at HG
      exact ⟨_, rfl, HG.out, hb⟩
end Go.Proofs.YthiiinbkkjacbaaDoor

/- Contract of the program's stretches. -/
namespace Go.Proofs.YthiiinbkkjacbaaDoor
open Go.RowKit

theorem has_nat (f : Nat → Bool) (k : Nat) (w : World) (h1 : k < 256) :
    Calls Tryd.prog 66 #[(.agg #[.int .u64 (word (f) 0), .int .u64 (word (f) 1), .int .u64 (word (f) 2), .int .u64 (word (f) 3)]), .int .u8 k] w fun e w' => e = .returned (.bool (f k)) ∧ Below w.heap.size w w' := by
  have := has_calls f k w (by omega) (by omega)
  rwa [Int.toNat_natCast] at this
/-- the set that a block holds, for a measure -/
def cellNat (w : World) (B i : Nat) : Nat := match w.cell? ⟨B, i, none⟩ with
  | some (.int _ n) => n.toNat
  | _ => 0
def setOf (w : World) (B : Nat) : Nat → Bool := mem (cellNat w B 0) (cellNat w B 1) (cellNat w B 2) (cellNat w B 3)
theorem setOf_at {w : World} {B : Nat} {g : Nat → Bool} (h : SetAt w B g) (n : Nat) (hn : n < 256) : setOf w B n = g n := by
  obtain ⟨c0, c1, c2, c3, _⟩ := h.facts
  have e : setOf w B = mem (word g 0) (word g 1) (word g 2) (word g 3) := by
    unfold setOf cellNat
    rw [c0, c1, c2, c3]
    simp
  obtain ⟨m0, m1, m2, m3⟩ := word_mem (word_lt g 0) (word_lt g 1) (word_lt g 2) (word_lt g 3)
  rw [e]
  exact word_inj (fun i hi => match i, hi with
    | 0, _ => m0
    | 1, _ => m1
    | 2, _ => m2
    | 3, _ => m3) n hn
theorem fewer {g h : Nat → Bool} {a : Nat} (ha : a < 256) (hg : g a = true) (hlt : ∀ j, j < a → g j = false) (hh : h a = false) (hle : ∀ n, n < 256 → h n = true → g n = true) : (elems h).length < (elems g).length := by
  have e : elems g = a :: _ := filter_first g a hg hlt 256 ha
  rw [e, List.length_cons]
  have : (elems h).length ≤ ((List.range 256).filter fun j => g j && decide (j ≠ a)).length := by
    unfold elems
    rw [← List.countP_eq_length_filter, ← List.countP_eq_length_filter]
    refine List.countP_mono_left fun n hn hp => ?_
    have := hle n (List.mem_range.1 hn) hp
    rw [this]
    simp
    rintro rfl
    rw [hh] at hp
    cases hp
  omega
/-- what is left of a set when its first stretch is taken out -/
theorem taken (g : Nat → Bool) (a b : Nat) (n : Nat) : fMinus g (fSpan a b) n = without g a b n := by
  simp only [fMinus, fSpan, without]
  congr 2
  rw [Bool.eq_iff_iff]
  simp
theorem sameSet_true {g : Nat → Bool} (h : ¬ ∀ n, n < 256 → g n = false) : sameSet g fNone = false := by
  rw [Bool.eq_false_iff]
  exact fun h' => h fun n hn => (same_iff g fNone).1 h' n hn

theorem row_cell {w : World} {base B i : Nat} {e : TypeId} {size : Nat} {v : Value} {n : Nat} {xs : List Value} (h : w.ownsRow base e size v n xs) (hB : B < base) (u : Value) : (w.setCell ⟨B, i, none⟩ u).ownsRow base e size v n xs := by
  refine h.kept (row := some B) ⟨rfl, rfl, rfl, by simp [World.setCell], fun k _ hk => Below.heap_setCell _ _ _ _ fun e => hk (by rw [e])⟩ ?_
  cases hv : v.ownBlock with
  | none => exact .inl rfl
  | some k =>
    refine .inr fun e => ?_
    have := (h.lt k hv).1
    have := Option.some.inj e
    omega
theorem row_cells {w : World} {base B : Nat} {e : TypeId} {size : Nat} {v : Value} {n : Nat} {xs : List Value} (h : w.ownsRow base e size v n xs) (hB : B < base) (v0 v1 v2 v3 : Value) :
    ((((w.setCell ⟨B, 0, none⟩ v0).setCell ⟨B, 1, none⟩ v1).setCell ⟨B, 2, none⟩ v2).setCell ⟨B, 3, none⟩ v3).ownsRow base e size v n xs := row_cell (row_cell (row_cell (row_cell h hB v0) hB v1) hB v2) hB v3
theorem Tab.cell {w : World} {B i : Nat} (h : Tab w) (hB : 1 < B) (u : Value) : Tab (w.setCell ⟨B, i, none⟩ u) := fun j hj =>
  (World.cell?_of_block (Below.heap_setCell _ _ _ _ (Nat.ne_of_lt hB))).trans (h j hj)
theorem Tab.cells {w : World} {B : Nat} (h : Tab w) (hB : 1 < B) (v0 v1 v2 v3 : Value) :
    Tab ((((w.setCell ⟨B, 0, none⟩ v0).setCell ⟨B, 1, none⟩ v1).setCell ⟨B, 2, none⟩ v2).setCell ⟨B, 3, none⟩ v3) := (((h.cell hB v0).cell hB v1).cell hB v2).cell hB v3

set_option maxHeartbeats 2000000 in
set_option maxRecDepth 100000 in
theorem runs_calls (f : Nat → Bool) (w : World) (ht : Tab w) :
    Calls Tryd.prog 41 #[(.agg #[.int .u64 (word (f) 0), .int .u64 (word (f) 1), .int .u64 (word (f) 2), .int .u64 (word (f) 3)])] w (RetRow (w.heap.size + 1) 70 2 (runs f).length (pairsV (runs f)) w) := by
  obtain ⟨i0, hi, hz0, hz1, hz2⟩ := info_parts infoPair
  have HI := hidden hi
  have HZ := hidden (And.intro hz0 (And.intro hz1 hz2))
  have HT := hidden (ht.below ((Below.refl w.heap.size w).alloc (Nat.le_refl _) (.cells #[.int .u64 (word (f) 0), .int .u64 (word (f) 1), .int .u64 (word (f) 2), .int .u64 (word (f) 3)] 25)))
  have htl := cell_lt (ht 0 (by decide))
  have HQ := hidden (fun w g => eq_none w g)
  clear hi hz0 hz1 hz2 ht
  go_enter Tryd.func41, Tryd.ntmps41
  go_wp2
  go_loopw [3, 4, 5] (fun v _ _ wr => ∃ (g : Nat → Bool) (L : List (Nat × Nat)), L ++ runs g = runs f ∧ GotP L (w.heap.size + 1) v wr ∧ SetAt wr w.heap.size g ∧ Tab wr ∧ Below w.heap.size w wr) (fun _ _ _ wr => (elems (setOf wr w.heap.size)).length)
  case atStart =>
    exact ⟨f, [], rfl, ⟨rfl, .inl ⟨rfl, rfl⟩⟩, SetAt.new w f, HT.out, by go_grown⟩
  case round =>
    obtain ⟨g, L, hL, hG, hS, hT, hb⟩ := hrel
    have l1 := hS.lt
    obtain ⟨c0, c1, c2, c3, _, _, _, _⟩ := hS.facts
    have HS := hidden hS
    have HG := hidden hG
    have HTr := hidden hT
    have HL := hidden hL
    have hE := hidden (elems_congr (setOf_at hS))
    have hq := fun w => HQ.out w g
    clear hS hG hT hL
    by_cases hn : ∀ n, n < 256 → g n = false
    · have hs : sameSet g fNone = true := same_of fun n h => by rw [hn n h]; rfl
      rw [hs] at hq
      have HN := hidden (runs_none hn)
      clear hn hs
      go_wp2
      go_ret
      have e := HL.out
      rw [HN.out, List.append_nil] at e
      rw [← e]
      exact ⟨_, rfl, HG.out, hb⟩
    · rw [sameSet_true hn] at hq
      obtain ⟨a, ha, hga, hmin, hfirst⟩ := least g hn
      have HGA := hidden (And.intro hga (And.intro hmin hfirst))
      clear hn hga hmin hfirst
      go_wp2_with fail
      refine (first_calls g _ HTr.out).mono ?_
      rintro e w1 ⟨rfl, hb1⟩
      rw [HGA.out.2.2]
      have HS1 := hidden (HS.out.below hb1)
      have HG1 := hidden (row_below HG.out hb1)
      have HT1 := hidden (HTr.out.below hb1)
      have HB1 := hidden (below_then hb (by omega) hb1)
      have l2 := hb1.size
      clear hb1 HG HS hb HTr c0 c1 c2 c3
      go_wp2
      have hLl : L.length ≤ 256 := by
        have h1 := upRuns_len f 256
        rw [upRuns_all, ← HL.out, List.length_append] at h1
        omega
      go_loopw [5] (fun u wi => ∃ b : Nat, a ≤ b ∧ b < 256 ∧ u = .int .i64 b ∧ lastR g b = lastR g a ∧ GotP L (w.heap.size + 1) u3 wi ∧ SetAt wi w.heap.size g ∧ Tab wi ∧ Below w.heap.size w wi) (fun u _ => 256 - (intOf u).toNat)
      case atStart => exact ⟨a, Nat.le_refl _, ha, rfl, rfl, HG1.out, HS1.out, HT1.out, HB1.out⟩
      case round =>
        obtain ⟨b, hkb, hb256, rfl, hlast, hG3, hS3, hT3, hB3⟩ := hrel
        obtain ⟨c0, c1, c2, c3, _, _, _, _⟩ := hS3.facts
        have l3 := hS3.lt
        have HG3 := hidden hG3
        have HS3 := hidden hS3
        have HT3 := hidden hT3
        have HB3 := hidden hB3
        have HLa := hidden hlast
        clear hG3 hS3 hT3 hB3 hlast
        by_cases hmore : b < 255 ∧ g (b + 1) = true
        · have hb255 := hmore.1
          have hfb := hmore.2
          have hwr3 : IntKind.u8.wrap ((b : Int) + 1) = ((b + 1 : Nat) : Int) := by rw [IntKind.wrap_u8]; omega
          clear hmore
          go_wp2_with fail
          refine (has_nat g (b + 1) _ (by omega)).mono ?_
          rintro e w3 ⟨rfl, hb3⟩
          rw [hfb]
          have HS4 := hidden (HS3.out.below hb3)
          have HG4 := hidden (row_below HG3.out hb3)
          have HT4 := hidden (HT3.out.below hb3)
          have HB4 := hidden (below_then HB3.out (by omega) hb3)
          clear hb3
          go_wp2
          refine ⟨⟨b + 1, by omega, by omega, by go_num, ?_, HG4.out, HS4.out, HT4.out, HB4.out⟩, by simp [intOf]; omega⟩
          rw [← HLa.out, lastR_more hb255 hfb]
        · have hend := lastR_end hmore
          have hEn := hidden (hend.symm.trans HLa.out)
          clear hend
          by_cases hb255 : b < 255
          case' pos =>
            have hwr3 : IntKind.u8.wrap ((b : Int) + 1) = ((b + 1 : Nat) : Int) := by rw [IntKind.wrap_u8]; omega
            have hfb : g (b + 1) = false := by
              cases h : g (b + 1)
              · rfl
              · exact absurd ⟨hb255, h⟩ hmore
            clear hmore
            go_wp2_with fail
            refine (has_nat g (b + 1) _ (by omega)).mono ?_
            rintro e w3 ⟨rfl, hb3⟩
            rw [hfb]
            have HS4 := hidden (HS3.out.below hb3)
            have HG4 := hidden (row_below HG3.out hb3)
            have HT4 := hidden (HT3.out.below hb3)
            have HB4 := hidden (below_then HB3.out (by omega) hb3)
            clear hb3 c0 c1 c2 c3
          case' neg =>
            clear hmore
            obtain ⟨w3, rfl⟩ : ∃ w3 : World, w3 = wr := ⟨_, rfl⟩
            have HS4 := HS3
            have HG4 := HG3
            have HT4 := HT3
            have HB4 := HB3
            clear c0 c1 c2 c3
          all_goals
            have K3 := hidden (show L.length + 1 ≤ maxLen by unfold maxLen; omega)
            have K4 := hidden (show (L.length + 1) * 16 ≤ 140737488355328 by omega)
            have K5 := hidden (show w.heap.size + 1 ≤ (w3.alloc (.cells #[.int .i64 a, .int .i64 b] 70)).heap.size by have := HB4.out.size; simp; omega)
            go_wp2_with (at_builtin; refine wpList_append_own _ rfl _ _ 68 rfl (w.heap.size + 1) 70 i0 (.agg #[.int .i64 0, .int .i64 0]) 2 16 Tryd.underlying68 HI.out HZ.out.1 HZ.out.2.1 HZ.out.2.2 rfl (by decide) _ _ _ rfl (HG4.out.alloc _) ⟨w3.heap.size, 0, none⟩ 1 1 [.int .i64 a, .int .i64 b] rfl rfl (fun j u hj => news_two hj) one_two K3.out K4.out K5.out ?_)
            intro v5 w5 hown5 hgrow5 _
            have HO := hidden (HG4.out.alloc (.cells #[.int .i64 a, .int .i64 b] 70))
            have HR := hidden (gotP_more (p := (a, b)) hown5)
            have HS5 := hidden ((HS4.out.alloc (.cells #[.int .i64 a, .int .i64 b] 70)).grown HO.out hgrow5 (Nat.lt_succ_self _))
            have HT5 := hidden ((HT4.out.below ((Below.refl w3.heap.size w3).alloc (Nat.le_refl _) (.cells #[.int .i64 a, .int .i64 b] 70))).grown HO.out hgrow5 (by omega))
            have HB5 := hidden (below_grown (HB4.out.alloc HB4.out.size (.cells #[.int .i64 a, .int .i64 b] 70)) HO.out hgrow5 (Nat.le_succ _) (by have := HB4.out.size; simp; omega))
            have l5 := HB5.out.size
            have hW5 := HS5.out.lt
            obtain ⟨c0, c1, c2, c3, f0, f1, f2, f3⟩ := HS5.out.facts
            clear hown5 hgrow5
            go_wp2
            go_region_with (first
              | (go_at_call 68; refine (span_calls a b _).mono ?_; rintro e w6 ⟨rfl, hb6⟩; have HS6 := hidden (HS5.out.drew.below hb6); have HR6 := hidden (row_below HR.out.drew hb6); have HT6 := hidden (HT5.out.drew.below hb6); have HB6 := hidden (below_then HB5.out.drew (by simp; omega) hb6); have l6 := hb6.size; simp at l6; clear hb6; obtain ⟨d0, d1, d2, d3, g0, g1, g2, g3⟩ := HS6.out.facts)
              | (go_at_call 67; refine (minus_calls g (fSpan a b) _).mono ?_; rintro e w7 ⟨rfl, hb7⟩; have HS7 := hidden (HS6.out.below hb7); have HR7 := hidden (row_below HR6.out hb7); have HT7 := hidden (HT6.out.below hb7); have HB7 := hidden (below_then HB6.out (by omega) hb7); clear hb7; obtain ⟨d0, d1, d2, d3, g0, g1, g2, g3⟩ := HS7.out.facts))
            all_goals
              go_wp2
              refine ⟨⟨fMinus g (fSpan a b), L ++ [(a, b)], ?_, row_cells HR7.out (Nat.lt_succ_self _) _ _ _ _, HS7.out.stored, HT7.out.cells (by omega) _ _ _ _, below_cells HB7.out _ (Nat.le_refl _) _ _ _ _⟩, ?_⟩
              · rw [runs_congr fun n _ => taken g a b n, List.append_assoc, ← HL.out, runs_step g a ha HGA.out.1 HGA.out.2.1, ← hEn.out]
                rfl
              · rw [hE.out, elems_congr (setOf_at HS7.out.stored)]
                refine fewer ha HGA.out.1 HGA.out.2.1 ?_ fun n _ hn => ?_
                · rw [taken]
                  simp [without, hkb]
                · rw [taken] at hn
                  simp [without] at hn
                  exact hn.1
end Go.Proofs.YthiiinbkkjacbaaDoor

/- The stretches of a set come to it again, do not touch, and have as many bytes as it has: the mathematics, without the program. -/
namespace Go.Proofs.YthiiinbkkjacbaaDoor

def spanOf (p : Nat × Nat) : Nat → Bool := fSpan p.1 p.2
def sumOf (L : List (Nat × Nat)) : Nat := (L.map fun p => p.2 - p.1 + 1).sum
structure Back (f : Nat → Bool) : Prop where
  chain : ∀ i, i + 1 < (runs f).length → ((runs f).getD i (0, 0)).2 + 2 ≤ ((runs f).getD (i + 1) (0, 0)).1
  union : ∀ n, n < 256 → fAny ((runs f).map spanOf) n = f n
  sum : sumOf (runs f) = (elems f).length
theorem runs_mem {f : Nat → Bool} {p : Nat × Nat} (h : p ∈ runs f) : p.1 < 256 ∧ f p.1 = true ∧ p.2 = lastR f p.1 := by
  unfold runs at h
  obtain ⟨b, hb, rfl⟩ := List.mem_map.1 h
  obtain ⟨h1, h2⟩ := List.mem_filter.1 hb
  refine ⟨List.mem_range.1 h1, ?_, rfl⟩
  unfold start at h2
  simp at h2
  exact h2.1
theorem runs_le2 {f : Nat → Bool} {p : Nat × Nat} (h : p ∈ runs f) : p.1 ≤ p.2 ∧ p.2 < 256 := by
  obtain ⟨h1, h2, h3⟩ := runs_mem h
  have := lastR_spec f 255 p.1 (by omega) h1 h2
  rw [h3]
  exact ⟨this.1, this.2.1⟩
theorem count_span (a b : Nat) (hab : a ≤ b) : ∀ m, (List.range m).countP (fun n => decide (a ≤ n) && decide (n ≤ b)) = min (b + 1) m - a
  | 0 => by simp
  | m + 1 => by
    rw [List.range_succ, List.countP_append, count_span a b hab m, List.countP_singleton]
    by_cases h : a ≤ m ∧ m ≤ b
    · simp [h.1, h.2]
      omega
    · have : (decide (a ≤ m) && decide (m ≤ b)) = false := by
        rw [Bool.eq_false_iff]
        simp
        omega
      rw [this]
      simp
      omega
theorem elems_split (f : Nat → Bool) (a b : Nat) (hab : a ≤ b) (hb : b < 256) (h : ∀ n, a ≤ n → n ≤ b → f n = true) : (elems f).length = (b - a + 1) + (elems (without f a b)).length := by
  unfold elems
  rw [← List.countP_eq_length_filter, ← List.countP_eq_length_filter, List.countP_eq_countP_filter_add _ f (fun n => decide (a ≤ n) && decide (n ≤ b)), List.countP_filter, List.countP_filter]
  have e1 : (List.range 256).countP (fun n => f n && (decide (a ≤ n) && decide (n ≤ b))) = b - a + 1 := by
    have : (List.range 256).countP (fun n => f n && (decide (a ≤ n) && decide (n ≤ b))) = (List.range 256).countP (fun n => decide (a ≤ n) && decide (n ≤ b)) := by
      refine List.countP_congr fun n _ => ?_
      simp
      intro h1 h2
      exact h n h1 h2
    rw [this, count_span a b hab 256]
    omega
  rw [e1]
  rfl
theorem back : ∀ (m : Nat) (f : Nat → Bool), (elems f).length ≤ m → Back f
  | m, f, hm => by
    by_cases hn : ∀ n, n < 256 → f n = false
    · have hr := runs_none hn
      refine ⟨fun i hi => by rw [hr] at hi; simp at hi, fun n h => by rw [hr, hn n h]; rfl, ?_⟩
      have : elems f = [] := by
        rw [elems, List.filter_eq_nil_iff]
        intro a ha
        rw [hn a (List.mem_range.1 ha)]
        simp
      rw [hr, this]
      rfl
    · obtain ⟨a, ha, hfa, hmin, _⟩ := least f hn
      obtain ⟨h1, h2, h3, h4⟩ := lastR_spec f 255 a (by omega) ha hfa
      have hstep := runs_step f a ha hfa hmin
      generalize hL : lastR f a = L at *
      have hfew : (elems (without f a L)).length < (elems f).length := fewer ha hfa hmin (by simp [without, h1]) fun n _ h => by
        simp [without] at h
        exact h.1
      match m, hm with
      | 0, hm => omega
      | m + 1, hm =>
        have ih := back m (without f a L) (by omega)
        have hfirst : ∀ p ∈ runs (without f a L), L + 2 ≤ p.1 := fun p hp => by
          obtain ⟨p1, p2, _⟩ := runs_mem hp
          simp only [without, Bool.and_eq_true, Bool.not_eq_true', Bool.and_eq_false_iff, decide_eq_false_iff_not] at p2
          obtain ⟨p2, p3⟩ := p2
          have c1 : ¬ p.1 < a := fun h => by
            rw [hmin _ h] at p2
            cases p2
          have c2 : p.1 ≠ L + 1 := fun h => by
            rw [h, h4 (by omega)] at p2
            cases p2
          omega
        refine ⟨fun i hi => ?_, fun n hn' => ?_, ?_⟩
        · rw [hstep] at hi ⊢
          cases i with
          | zero =>
            simp only [List.getD_cons_zero, List.getD_cons_succ]
            cases hr : runs (without f a L) with
            | nil => rw [hr] at hi; simp at hi
            | cons p r =>
              simp only [List.getD_cons_zero]
              exact hfirst p (by rw [hr]; exact List.mem_cons_self ..)
          | succ i =>
            simp only [List.getD_cons_succ]
            exact ih.chain i (by simpa using hi)
        · rw [hstep]
          have hu := ih.union n hn'
          simp only [fAny, List.map_cons, List.any_cons] at hu ⊢
          rw [hu]
          simp only [spanOf, fSpan, without]
          by_cases c : a ≤ n ∧ n ≤ L
          · rw [h3 n c.1 c.2]
            simp [c.1, c.2]
          · have e : (decide ((a : Int) ≤ (n : Int)) && decide ((n : Int) ≤ (L : Int))) = false := by
              rw [Bool.eq_false_iff]
              simp
              omega
            have e2 : (decide (a ≤ n) && decide (n ≤ L)) = false := by
              rw [Bool.eq_false_iff]
              simp
              omega
            rw [e, e2]
            simp
        · rw [hstep, elems_split f a L h1 h2 h3, ← ih.sum]
          simp [sumOf]
theorem back_all (f : Nat → Bool) : Back f := back _ f (Nat.le_refl _)
theorem sumOf_more (L : List (Nat × Nat)) (k : Nat) (h : k < L.length) : sumOf (L.take (k + 1)) = sumOf (L.take k) + ((L.getD k (0, 0)).2 - (L.getD k (0, 0)).1 + 1) := by
  unfold sumOf
  rw [List.take_succ_eq_append_getElem h, List.map_append, List.sum_append]
  simp only [List.map_cons, List.map_nil, List.sum_cons, List.sum_nil, List.getD_eq_getElem?_getD, List.getElem?_eq_getElem h, Option.getD_some, Nat.add_zero]
theorem sumOf_bound : ∀ (L : List (Nat × Nat)), (∀ p ∈ L, p.1 ≤ p.2 ∧ p.2 < 256) → sumOf L ≤ 256 * L.length
  | [], _ => by simp [sumOf]
  | p :: r, h => by
    have h1 := h p (List.mem_cons_self ..)
    have h2 := sumOf_bound r fun q hq => h q (List.mem_cons_of_mem _ hq)
    have e : sumOf (p :: r) = (p.2 - p.1 + 1) + sumOf r := by simp [sumOf]
    rw [e, List.length_cons]
    omega
end Go.Proofs.YthiiinbkkjacbaaDoor
