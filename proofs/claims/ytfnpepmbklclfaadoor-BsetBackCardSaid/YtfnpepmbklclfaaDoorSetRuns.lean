/- Contract of the reference's stretches. -/
import Derived.Test.YtfnpepmbklclfaaDoorSetList
namespace Go.Proofs.YtfnpepmbklclfaaDoor
open Go.RowKit

def pairV (p : Nat × Nat) : List Value := [.int .i64 p.1, .int .i64 p.2]
def pairsV (L : List (Nat × Nat)) : List Value := L.flatMap pairV
theorem infoPair : (Tryd.prog.info? 44).map (fun i => (i.zero, i.size, i.bytes)) = some (some (.agg #[.int .i64 0, .int .i64 0]), 2, 16) := by kernel_rfl
/-- the stretches that begin below k -/
def upRuns (f : Nat → Bool) (k : Nat) : List (Nat × Nat) := ((List.range k).filter (start f)).map fun b => (b, lastR f b)
theorem upRuns_all (f : Nat → Bool) : upRuns f 256 = runs f := rfl
theorem upRuns_more {f : Nat → Bool} {k : Nat} (h : start f k = true) : upRuns f (k + 1) = upRuns f k ++ [(k, lastR f k)] := by
  unfold upRuns
  rw [← take_more (start f) k h, List.map_append]
  rfl
theorem upRuns_same {f : Nat → Bool} {k : Nat} (h : start f k = false) : upRuns f (k + 1) = upRuns f k := by
  unfold upRuns
  rw [← take_same (start f) k h]
theorem upRuns_len (f : Nat → Bool) (k : Nat) : (upRuns f k).length ≤ k := by
  have := filter_le (start f) k
  simpa [upRuns] using this
/-- pairs got so far, in a row of the call's own -/
def GotP (L : List (Nat × Nat)) (base : Nat) (v : Value) (w : World) : Prop := w.ownsRow base 44 2 v L.length (pairsV L)
theorem gotP_more {L : List (Nat × Nat)} {p : Nat × Nat} {base : Nat} {v : Value} {w : World} (hw : w.ownsRow base 44 2 v (L.length + 1) (pairsV L ++ [.int .i64 p.1, .int .i64 p.2])) : GotP (L ++ [p]) base v w := by
  unfold GotP pairsV
  rw [List.flatMap_append, List.length_append]
  simpa [pairV, pairsV] using hw
theorem news_two {w : World} {x y u : Value} {t : TypeId} {j : Nat} (hj : [x, y][j]? = some u) : (w.alloc (.cells #[x, y] t)).cell? ((⟨w.heap.size, 0, none⟩ : Addr).add j) = some u := by
  match j, hj with
  | 0, hj =>
    simp at hj
    subst hj
    rw [Addr.add_lit, World.cell?_alloc_at _ _ _ _ rfl]
    rfl
  | 1, hj =>
    simp at hj
    subst hj
    rw [Addr.add_lit, World.cell?_alloc_at _ _ _ _ rfl]
    rfl
theorem one_two {x y : Int} (u : Value) (hu : u ∈ [Value.int .i64 x, Value.int .i64 y]) : u.oneCell' = true := by
  simp at hu
  rcases hu with rfl | rfl <;> rfl

set_option maxHeartbeats 2000000 in
set_option maxRecDepth 100000 in
theorem rruns_calls (f : Nat → Bool) (w : World) :
    Calls Tryd.prog 27 #[(.agg #[.int .u64 (word (f) 0), .int .u64 (word (f) 1), .int .u64 (word (f) 2), .int .u64 (word (f) 3)])] w (RetRow (w.heap.size + 1) 44 2 (runs f).length (pairsV (runs f)) w) := by
  obtain ⟨i0, hi, hz0, hz1, hz2⟩ := info_parts infoPair
  have HI := hidden hi
  have HZ := hidden (And.intro hz0 (And.intro hz1 hz2))
  clear hi hz0 hz1 hz2
  go_enter Tryd.func27, Tryd.ntmps27
  go_wp2
  go_loopw [3, 4, 5] (fun v i _ wr => ∃ k : Nat, k ≤ 256 ∧ i = .int .i64 k ∧ GotP (upRuns f k) (w.heap.size + 1) v wr ∧ SetAt wr w.heap.size f ∧ Below w.heap.size w wr) (fun _ i _ _ => 256 - (intOf i).toNat)
  case atStart =>
    exact ⟨0, by omega, rfl, ⟨rfl, .inr ⟨_, 0, #[], rfl, Nat.le_refl _, heap_alloc2_new _ _ _, Nat.le_refl _, by decide, rfl, rfl⟩⟩, (SetAt.new w f).alloc _, by go_grown⟩
  case round =>
    obtain ⟨k, hk, rfl, hG, hS, hb⟩ := hrel
    have l1 := hS.lt
    by_cases hlt : k < 256
    · obtain ⟨c0, c1, c2, c3, _, _, _, _⟩ := hS.facts
      have HS := hidden hS
      have HG := hidden hG
      clear hS hG
      have hwr : IntKind.u8.wrap (k : Int) = k := by rw [IntKind.wrap_u8]; omega
      have hd : decide ((k : Int) < 256) = true := by simp; omega
      go_wp2_with fail
      refine (rhas_nat f k _ (by omega)).mono ?_
      rintro e w1 ⟨rfl, hb1⟩
      have HS1 := hidden (HS.out.below hb1)
      have HG1 := hidden (row_below HG.out hb1)
      have HB1 := hidden (below_then hb (by omega) hb1)
      have l2 := hb1.size
      clear hb1 HG HS hb c0 c1 c2 c3
      cases hf : f k
      · have HN := hidden (upRuns_same (f := f) (k := k) (by simp [start, hf]))
        go_wp2
        refine ⟨⟨k + 1, by omega, by go_num, ?_, HS1.out, HB1.out⟩, by simp [intOf]; omega⟩
        rw [HN.out]
        exact HG1.out
      · by_cases hC : 0 < k ∧ f (k - 1) = true
        · have HN := hidden (upRuns_same (f := f) (k := k) (by simp [start, hC.2]; omega))
          have hk0 : (0 : Int) < k := by omega
          have hwr2 : IntKind.u8.wrap ((k : Int) - 1) = ((k - 1 : Nat) : Int) := by rw [IntKind.wrap_u8]; omega
          obtain ⟨c0, c1, c2, c3, _, _, _, _⟩ := HS1.out.facts
          have hf2 := hC.2
          go_wp2_with fail
          refine (rhas_nat f (k - 1) _ (by omega)).mono ?_
          rintro e w2 ⟨rfl, hb2⟩
          rw [hf2]
          have HS2 := hidden (HS1.out.below hb2)
          have HG2 := hidden (row_below HG1.out hb2)
          have HB2 := hidden (below_then HB1.out (by omega) hb2)
          clear hb2
          go_wp2
          refine ⟨⟨k + 1, by omega, by go_num, ?_, HS2.out, HB2.out⟩, by simp [intOf]; omega⟩
          rw [HN.out]
          exact HG2.out
        · have HN := hidden (upRuns_more (f := f) (k := k) (by
            by_cases h0 : k = 0
            · subst h0
              simp [start, hf]
            · have : f (k - 1) = false := by
                cases h : f (k - 1)
                · rfl
                · exact absurd ⟨by omega, h⟩ hC
              simp [start, hf, this]))
          by_cases h0 : k = 0
          case' pos =>
            have hk0 : (k : Int) ≤ 0 := by omega
            have H0 := hidden h0
            clear h0 hC
            obtain ⟨w2, rfl⟩ : ∃ w2 : World, w2 = w1 := ⟨_, rfl⟩
            have HS2 := HS1
            have HG2 := HG1
            have HB2 := HB1
            have hdg : decide ((0 : Int) < k) = false := by simp; omega
            go_wp2
          case' neg =>
            have hk0 : (0 : Int) < k := by omega
            have hwr2 : IntKind.u8.wrap ((k : Int) - 1) = ((k - 1 : Nat) : Int) := by rw [IntKind.wrap_u8]; omega
            obtain ⟨c0, c1, c2, c3, _, _, _, _⟩ := HS1.out.facts
            have hf2 : f (k - 1) = false := by
              cases h : f (k - 1)
              · rfl
              · exact absurd ⟨by omega, h⟩ hC
            clear h0 hC
            go_wp2_with fail
            refine (rhas_nat f (k - 1) _ (by omega)).mono ?_
            rintro e w2 ⟨rfl, hb2⟩
            rw [hf2]
            have HS2 := hidden (HS1.out.below hb2)
            have HG2 := hidden (row_below HG1.out hb2)
            have HB2 := hidden (below_then HB1.out (by omega) hb2)
            clear hb2 c0 c1 c2 c3
            have hdg : decide ((0 : Int) < k) = true := by simp; omega
            go_wp2
          all_goals
            go_loopw [5] (fun u wi => ∃ b : Nat, k ≤ b ∧ b < 256 ∧ u = .int .i64 b ∧ lastR f b = lastR f k ∧ GotP (upRuns f k) (w.heap.size + 1) u3 wi ∧ SetAt wi w.heap.size f ∧ Below w.heap.size w wi) (fun u _ => 256 - (intOf u).toNat)
            case atStart => exact ⟨k, Nat.le_refl _, hlt, rfl, rfl, HG2.out, HS2.out, HB2.out⟩
            case round =>
              obtain ⟨b, hkb, hb256, rfl, hlast, hG3, hS3, hB3⟩ := hrel
              obtain ⟨c0, c1, c2, c3, _, _, _, _⟩ := hS3.facts
              have l3 := hS3.lt
              have HG3 := hidden hG3
              have HS3 := hidden hS3
              have HB3 := hidden hB3
              have HLa := hidden hlast
              clear hG3 hS3 hB3 hlast
              by_cases hmore : b < 255 ∧ f (b + 1) = true
              · have hb255 := hmore.1
                have hfb := hmore.2
                have hwr3 : IntKind.u8.wrap ((b : Int) + 1) = ((b + 1 : Nat) : Int) := by rw [IntKind.wrap_u8]; omega
                clear hmore
                go_wp2_with fail
                refine (rhas_nat f (b + 1) _ (by omega)).mono ?_
                rintro e w3 ⟨rfl, hb3⟩
                rw [hfb]
                have HS4 := hidden (HS3.out.below hb3)
                have HG4 := hidden (row_below HG3.out hb3)
                have HB4 := hidden (below_then HB3.out (by omega) hb3)
                clear hb3
                go_wp2
                refine ⟨⟨b + 1, by omega, by omega, by go_num, ?_, HG4.out, HS4.out, HB4.out⟩, by simp [intOf]; omega⟩
                rw [← HLa.out, lastR_more hb255 hfb]
              · have hend := lastR_end hmore
                have hEn := hidden (hend.symm.trans HLa.out)
                clear hend
                by_cases hb255 : b < 255
                case' pos =>
                  have hwr3 : IntKind.u8.wrap ((b : Int) + 1) = ((b + 1 : Nat) : Int) := by rw [IntKind.wrap_u8]; omega
                  have hfb : f (b + 1) = false := by
                    cases h : f (b + 1)
                    · rfl
                    · exact absurd ⟨hb255, h⟩ hmore
                  clear hmore
                  go_wp2_with fail
                  refine (rhas_nat f (b + 1) _ (by omega)).mono ?_
                  rintro e w3 ⟨rfl, hb3⟩
                  rw [hfb]
                  have HS4 := hidden (HS3.out.below hb3)
                  have HG4 := hidden (row_below HG3.out hb3)
                  have HB4 := hidden (below_then HB3.out (by omega) hb3)
                  clear hb3 c0 c1 c2 c3
                case' neg =>
                  clear hmore
                  obtain ⟨w3, rfl⟩ : ∃ w3 : World, w3 = wr := ⟨_, rfl⟩
                  have HS4 := HS3
                  have HG4 := HG3
                  have HB4 := HB3
                all_goals
                  have hle := upRuns_len f k
                  have K3 := hidden (show (upRuns f k).length + 1 ≤ maxLen by unfold maxLen; omega)
                  have K4 := hidden (show ((upRuns f k).length + 1) * 16 ≤ 140737488355328 by omega)
                  have K5 := hidden (show w.heap.size + 1 ≤ (w3.alloc (.cells #[.int .i64 k, .int .i64 b] 44)).heap.size by have := HB4.out.size; simp; omega)
                  go_wp2_with (at_builtin; refine wpList_append_own _ rfl _ _ 41 rfl (w.heap.size + 1) 44 i0 (.agg #[.int .i64 0, .int .i64 0]) 2 16 Tryd.underlying41 HI.out HZ.out.1 HZ.out.2.1 HZ.out.2.2 rfl (by decide) _ _ _ rfl (HG4.out.alloc _) ⟨w3.heap.size, 0, none⟩ 1 1 [.int .i64 k, .int .i64 b] rfl rfl (fun j u hj => news_two hj) one_two K3.out K4.out K5.out ?_)
                  intro v5 w5 hown5 hgrow5 _
                  have HO := hidden (HG4.out.alloc (.cells #[.int .i64 k, .int .i64 b] 44))
                  have HR := hidden hown5
                  have HS5 := hidden ((HS4.out.alloc (.cells #[.int .i64 k, .int .i64 b] 44)).grown HO.out hgrow5 (Nat.lt_succ_self _))
                  have HB5 := hidden (below_grown (HB4.out.alloc HB4.out.size (.cells #[.int .i64 k, .int .i64 b] 44)) HO.out hgrow5 (Nat.le_succ _) (by have := HB4.out.size; simp; omega))
                  clear hown5 hgrow5
                  go_wp2
                  refine ⟨⟨k + 1, by omega, by go_num, ?_, HS5.out, HB5.out⟩, by simp [intOf]; omega⟩
                  rw [HN.out, ← hEn.out]
                  exact gotP_more HR.out
    · have e : k = 256 := by omega
      subst e
      have HG := hidden hG
      clear hG hS
      go_wp2
      go_ret
      rw [upRuns_all] at HG
      exact ⟨_, rfl, HG.out, hb⟩
end Go.Proofs.YtfnpepmbklclfaaDoor
