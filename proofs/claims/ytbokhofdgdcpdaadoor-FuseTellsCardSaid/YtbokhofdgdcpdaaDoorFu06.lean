/- FaBoth, FaBehind, FaAgain, put together. -/
import Derived.Test.YtbokhofdgdcpdaaDoorFu05
/- Contract of the reference's both. -/
namespace Go.Proofs.YtbokhofdgdcpdaaDoor
open Go.RowKit Go.Lib Go.Joins

set_option maxHeartbeats 4000000 in
set_option maxRecDepth 100000 in
theorem mboth_calls (s : ByteArray) (A B : Nat → Nat → Bool) (va vb : Value) (w : World) (hs : s.size ≤ 1000) (hA : MatR w va (s.size + 1) A) (hB : MatR w vb (s.size + 1) B) :
    Calls Tryd.prog 98 #[va, vb, .string s] w (RetM w (s.size + 1) (mBoth A B)) := by
  have H0 := hidden (none_calls s w hs)
  have hA0 := hA
  have hB0 := hB
  obtain ⟨ba, oa, cpa, rfl, _⟩ := hA0
  obtain ⟨bb, ob, cpb, rfl, _⟩ := hB0
  obtain ⟨N, hN⟩ : ∃ N, N = s.size + 1 := ⟨_, rfl⟩
  rw [← hN] at H0 hA hB ⊢
  have hNle : N ≤ 1001 := by omega
  have HN := hidden hN
  have HAr := hidden hA
  have HBr := hidden hB
  obtain ⟨M, hM⟩ : ∃ M, M = mBoth A B := ⟨_, rfl⟩
  rw [← hM]
  have HM := hidden hM
  clear hN hM hA hB
  go_enter Tryd.func98, Tryd.ntmps98
  go_wp2_with fail
  refine H0.out.mono ?_
  rintro e w1 ⟨g, cap, rs, rfl, ht, hb⟩
  have HT := hidden ht
  have HB := hidden hb
  clear ht hb
  go_wp2
  go_loopw [8, 9] (fun i _ wr => ∃ p : Nat, p ≤ N ∧ i = .int .i64 p ∧ TabW wr w.heap.size g cap rs N (mTo M p 0) ∧ Below w.heap.size w wr) (fun i _ _ => N - (intOf i).toNat)
  case atStart => exact ⟨0, by omega, rfl, HT.out.congr (mTo_none N _), HB.out⟩
  case round =>
    obtain ⟨p, hp, rfl, ht, hb⟩ := hrel
    have HT1 := hidden ht
    have HB1 := hidden hb
    clear ht hb
    by_cases hlt : p < N
    · have hNn := HN.out
      have hps : p ≤ s.size := by omega
      have hd : decide ((p : Int) ≤ s.size) = true := decide_eq_true (by omega)
      have hd' : decide (p ≤ s.size) = true := decide_eq_true (by omega)
      clear hNn
      go_wp2
      obtain ⟨wo, rfl⟩ : ∃ wo : World, wo = wr := ⟨_, rfl⟩
      go_loopw [9] (fun i wi => ∃ q : Nat, q ≤ N ∧ i = .int .i64 q ∧ TabW wi w.heap.size g cap rs N (mTo M p q) ∧ Below w.heap.size w wi) (fun i _ => N - (intOf i).toNat)
      case atStart => exact ⟨0, by omega, rfl, HT1.out, HB1.out⟩
      case round =>
        obtain ⟨q, hq, rfl, ht, hb⟩ := hrel
        have HT2 := hidden ht
        have HB2 := hidden hb
        clear ht hb
        by_cases hlq : q < N
        · have hNn := HN.out
          have e0 : decide ((q : Int) ≤ s.size) = true := decide_eq_true (by omega)
          have e0' : decide (q ≤ s.size) = true := decide_eq_true (by omega)
          obtain ⟨c, hc⟩ : ∃ c, c = rs.getD p 0 := ⟨_, rfl⟩
          have d1 := HT2.out.cell1 (p := p) hlt
          have d2 := HT2.out.cell2 hlt hlq
          have d3 := HT2.out.frozen2 q hlt
          have t4 := fun x (hx : x = M p q) => (HT2.out.set hlt q x).congr (mTo_put hx)
          have b4 := fun x => HB2.out.setCell (p := ⟨rs.getD p 0, q, none⟩) (HT2.out.low p hlt) (.bool x)
          rw [← hc] at d1 d2 d3
          simp only [← hc] at t4 b4
          obtain ⟨u, hu⟩ : ∃ u, u = mTo M p q p q := ⟨_, rfl⟩
          rw [← hu] at d2
          obtain ⟨_, _, _, ea, ha⟩ := HAr.out.below HB2.out
          cases ea
          obtain ⟨ca, oca, cca, a1, a2, _⟩ := ha p hlt
          have a3 := a2 q hlq
          obtain ⟨_, _, _, eb, hb'⟩ := HBr.out.below HB2.out
          cases eb
          obtain ⟨cb, ocb, ccb, b1, b2, _⟩ := hb' p hlt
          have b3 := b2 q hlq
          have T4 := hidden t4
          have B4 := hidden b4
          have hMx : M p q = (A p q || B p q) := by rw [HM.out]; rfl
          generalize A p q = x at *
          generalize B p q = y at *
          have HMX := hidden hMx
          clear t4 b4 hMx hu hc a2 b2 ha hb' hNn
          cases x
          · have T5 := hidden (T4.out y (by rw [HMX.out]; simp))
            have B5 := hidden (B4.out y)
            clear T4 B4
            go_wp2
            go_region
            all_goals
              go_wp2
              go_roundw
              case rel => exact ⟨q + 1, by omega, by go_num, T5.out.drew, B5.out.drew⟩
              case measure => simp [intOf]; omega
          · have T5 := hidden (T4.out true (by rw [HMX.out]; simp))
            have B5 := hidden (B4.out true)
            clear T4 B4
            go_wp2
            go_region
            all_goals
              go_wp2
              go_roundw
              case rel => exact ⟨q + 1, by omega, by go_num, T5.out.drew, B5.out.drew⟩
              case measure => simp [intOf]; omega
        · obtain rfl : q = N := by omega
          have hNn := HN.out
          have hd : decide ((q : Int) ≤ s.size) = false := decide_eq_false (by omega)
          have hd' : decide (q ≤ s.size) = false := decide_eq_false (by omega)
          have HQ := hidden hlt
          clear hNn
          go_wp2
          have hlt' := HQ.out
          exact ⟨⟨p + 1, by omega, by go_num, HT2.out.congr mTo_row, HB2.out⟩, by simp [intOf]; omega⟩
    · obtain rfl : p = N := by omega
      have hNn := HN.out
      have hd : decide ((p : Int) ≤ s.size) = false := decide_eq_false (by omega)
      have hd' : decide (p ≤ s.size) = false := decide_eq_false (by omega)
      clear hNn
      go_wp2
      go_ret
      exact ⟨g, cap, rs, rfl, HT1.out.congr mTo_all, HB1.out⟩
end Go.Proofs.YtbokhofdgdcpdaaDoor

/- Contracts of the reference's behind and again. -/
namespace Go.Proofs.YtbokhofdgdcpdaaDoor
open Go.RowKit Go.Lib Go.Joins

/-- how far a table is, with a place, the place between and the place behind -/
def bhTo (N : Nat) (A B : Nat → Nat → Bool) (p k q a b : Nat) : Bool :=
  (decide (a < p) && mBehind N A B a b) || (decide (a = p) && (((List.range k).any fun j => decide (p ≤ j) && (decide (j ≤ b) && (A p j && B j b))) || (decide (k ≤ b) && (decide (b < q) && (A p k && B k b)))))
section
variable {N : Nat} {A B : Nat → Nat → Bool}
theorem bh_start : Alike N (fun _ _ => false) (bhTo N A B 0 0 0) := fun a b _ _ => by simp [bhTo]
theorem bh_put {p k q : Nat} {x : Bool} (hk : k ≤ q) (hA : A p k = true) (hx : x = (bhTo N A B p k q p q || B k q)) : Alike N (fun a b => if a = p ∧ b = q then x else bhTo N A B p k q a b) (bhTo N A B p k (q + 1)) := fun a b _ _ => by
  subst hx
  by_cases e : a = p
  · subst e
    by_cases e2 : b = q
    · subst e2
      simp [bhTo, hA, hk]
    · have h1 : decide (b < q) = decide (b < q + 1) := by simp; omega
      simp only [bhTo, e2, and_false, if_false, h1]
  · simp [bhTo, e]
theorem bh_mid {p k q : Nat} (hp : p ≤ k) (h : A p k = false ∨ q = N) : Alike N (bhTo N A B p k q) (bhTo N A B p (k + 1) (k + 1)) := fun a b _ hb => by
  have h0 : (decide (k + 1 ≤ b) && (decide (b < k + 1) && (A p (k + 1) && B (k + 1) b))) = false := by
    by_cases c : k + 1 ≤ b
    · simp [show ¬ b < k + 1 by omega]
    · simp [c]
  simp only [bhTo, h0, List.range_succ, List.any_append, List.any_cons, List.any_nil, Bool.or_false, hp, decide_true, Bool.true_and]
  rcases h with h | rfl
  · simp [h]
  · simp [hb]
theorem bh_row {p q : Nat} : Alike N (bhTo N A B p N q) (bhTo N A B (p + 1) (p + 1) (p + 1)) := fun a b _ hb => by
  have h1 : ((List.range (p + 1)).any fun j => decide (p + 1 ≤ j) && (decide (j ≤ b) && (A (p + 1) j && B j b))) = false := by
    rw [List.any_eq_false]
    intro j hj
    have := List.mem_range.1 hj
    simp [show ¬ p + 1 ≤ j by omega]
  have h2 : (decide (p + 1 ≤ b) && (decide (b < p + 1) && (A (p + 1) (p + 1) && B (p + 1) b))) = false := by
    by_cases c : p + 1 ≤ b
    · simp [show ¬ b < p + 1 by omega]
    · simp [c]
  have h3 : decide (N ≤ b) = false := decide_eq_false (by omega)
  simp only [bhTo, h1, h2, h3, Bool.false_and, Bool.or_false, Bool.and_false]
  by_cases e : a = p
  · subst e
    simp [mBehind]
  · by_cases e2 : a < p
    · simp [e, e2, show a < p + 1 by omega]
    · simp [e, e2, show ¬ a < p + 1 by omega]
theorem bh_all : Alike N (bhTo N A B N N N) (mBehind N A B) := fun a b ha hb => by
  simp [bhTo, ha, show ¬ a = N by omega]
theorem bh_all' {k q : Nat} : Alike N (bhTo N A B N k q) (mBehind N A B) := fun a b ha hb => by
  simp [bhTo, ha, show ¬ a = N by omega]
end

set_option maxHeartbeats 8000000 in
set_option maxRecDepth 100000 in
theorem mbehind_calls (s : ByteArray) (A B : Nat → Nat → Bool) (va vb : Value) (w : World) (hs : s.size ≤ 1000) (hA : MatR w va (s.size + 1) A) (hB : MatR w vb (s.size + 1) B) :
    Calls Tryd.prog 97 #[va, vb, .string s] w (RetM w (s.size + 1) (mBehind (s.size + 1) A B)) := by
  have H0 := hidden (none_calls s w hs)
  have hA0 := hA
  have hB0 := hB
  obtain ⟨ba, oa, cpa, rfl, _⟩ := hA0
  obtain ⟨bb, ob, cpb, rfl, _⟩ := hB0
  obtain ⟨N, hN⟩ : ∃ N, N = s.size + 1 := ⟨_, rfl⟩
  rw [← hN] at H0 hA hB ⊢
  have hNle : N ≤ 1001 := by omega
  have HN := hidden hN
  have HAr := hidden hA
  have HBr := hidden hB
  clear hN hA hB
  go_enter Tryd.func97, Tryd.ntmps97
  go_wp2_with fail
  refine H0.out.mono ?_
  rintro e w1 ⟨g, cap, rs, rfl, ht, hb⟩
  have HT := hidden ht
  have HB := hidden hb
  clear ht hb
  go_wp2
  go_loopw [8, 9, 10] (fun i _ _ wr => ∃ p : Nat, p ≤ N ∧ i = .int .i64 p ∧ TabW wr w.heap.size g cap rs N (bhTo N A B p p p) ∧ Below w.heap.size w wr) (fun i _ _ _ => N - (intOf i).toNat)
  case atStart => exact ⟨0, by omega, rfl, HT.out.congr bh_start, HB.out⟩
  case round =>
    obtain ⟨p, hp, rfl, ht, hb⟩ := hrel
    have HT1 := hidden ht
    have HB1 := hidden hb
    clear ht hb
    by_cases hlt : p < N
    · have hNn := HN.out
      have hps : p ≤ s.size := by omega
      have hd : decide ((p : Int) ≤ s.size) = true := decide_eq_true (by omega)
      have hd' : decide (p ≤ s.size) = true := decide_eq_true (by omega)
      clear hNn
      go_wp2
      obtain ⟨wo, rfl⟩ : ∃ wo : World, wo = wr := ⟨_, rfl⟩
      go_loopw [9, 10] (fun i _ wi => ∃ k : Nat, p ≤ k ∧ k ≤ N ∧ i = .int .i64 k ∧ TabW wi w.heap.size g cap rs N (bhTo N A B p k k) ∧ Below w.heap.size w wi) (fun i _ _ => N - (intOf i).toNat)
      case atStart => exact ⟨p, by omega, by omega, rfl, HT1.out, HB1.out⟩
      case round =>
        obtain ⟨k, hpk, hk, rfl, ht, hb⟩ := hrel
        have HT2 := hidden ht
        have HB2 := hidden hb
        clear ht hb
        by_cases hlk : k < N
        · have hNn := HN.out
          have hks : k ≤ s.size := by omega
          have e0 : decide ((k : Int) ≤ s.size) = true := decide_eq_true (by omega)
          have e0' : decide (k ≤ s.size) = true := decide_eq_true (by omega)
          clear hNn
          go_wp2
          obtain ⟨wo, rfl⟩ : ∃ wo : World, wo = wr := ⟨_, rfl⟩
          go_loopw [10] (fun i wi => ∃ q : Nat, k ≤ q ∧ q ≤ N ∧ i = .int .i64 q ∧ TabW wi w.heap.size g cap rs N (bhTo N A B p k q) ∧ Below w.heap.size w wi) (fun i _ => N - (intOf i).toNat)
          case atStart => exact ⟨k, by omega, by omega, rfl, HT2.out, HB2.out⟩
          case round =>
            obtain ⟨q, hkq, hq, rfl, ht, hb⟩ := hrel
            have HT3 := hidden ht
            have HB3 := hidden hb
            clear ht hb
            obtain ⟨_, _, _, ea, ha⟩ := HAr.out.below HB3.out
            cases ea
            obtain ⟨ca, oca, cca, a1, a2, _⟩ := ha p hlt
            have a3 := a2 k hlk
            obtain ⟨x, hx⟩ : ∃ x, x = A p k := ⟨_, rfl⟩
            rw [← hx] at a3
            clear a2 ha
            cases x
            · have HX := hidden (show A p k = false from hx.symm)
              have HLK := hidden (And.intro hlk hpk)
              clear hx
              go_wp2
              have hh := HLK.out
              exact ⟨⟨k + 1, by omega, by omega, by go_num, HT3.out.congr (bh_mid hh.2 (.inl HX.out)), HB3.out⟩, by simp [intOf]; omega⟩
            · have HX := hidden (show A p k = true from hx.symm)
              clear hx
              by_cases hlq : q < N
              · have hNn := HN.out
                have e1 : decide ((q : Int) ≤ s.size) = true := decide_eq_true (by omega)
                have e1' : decide (q ≤ s.size) = true := decide_eq_true (by omega)
                obtain ⟨c, hc⟩ : ∃ c, c = rs.getD p 0 := ⟨_, rfl⟩
                have d1 := HT3.out.cell1 (p := p) hlt
                have d2 := HT3.out.cell2 hlt hlq
                have d3 := HT3.out.frozen2 q hlt
                have t4 := fun x hx => (HT3.out.set hlt q x).congr (bh_put hkq HX.out hx)
                have b4 := fun x => HB3.out.setCell (p := ⟨rs.getD p 0, q, none⟩) (HT3.out.low p hlt) (.bool x)
                rw [← hc] at d1 d2 d3
                simp only [← hc] at t4 b4
                obtain ⟨_, _, _, eb, hb'⟩ := HBr.out.below HB3.out
                cases eb
                obtain ⟨cb, ocb, ccb, b1, b2, _⟩ := hb' k hlk
                have b3 := b2 q hlq
                have T4 := hidden t4
                have B4 := hidden b4
                clear t4 b4
                generalize bhTo N A B p k q p q = x at *
                generalize B k q = y at *
                clear hc b2 hb' hNn
                cases x
                · have T5 := hidden (T4.out y (by simp))
                  have B5 := hidden (B4.out y)
                  clear T4 B4
                  go_wp2
                  go_region
                  all_goals
                    go_wp2
                    go_roundw
                    case rel => exact ⟨q + 1, by omega, by omega, by go_num, T5.out.drew, B5.out.drew⟩
                    case measure => simp [intOf]; omega
                · have T5 := hidden (T4.out true (by simp))
                  have B5 := hidden (B4.out true)
                  clear T4 B4
                  go_wp2
                  go_region
                  all_goals
                    go_wp2
                    go_roundw
                    case rel => exact ⟨q + 1, by omega, by omega, by go_num, T5.out.drew, B5.out.drew⟩
                    case measure => simp [intOf]; omega
              · obtain rfl : q = N := by omega
                have hNn := HN.out
                have hd : decide ((q : Int) ≤ s.size) = false := decide_eq_false (by omega)
                have hd' : decide (q ≤ s.size) = false := decide_eq_false (by omega)
                have HLK := hidden (And.intro hlk hpk)
                clear hNn
                go_wp2
                have hh := HLK.out
                exact ⟨⟨k + 1, by omega, by omega, by go_num, HT3.out.congr (bh_mid hh.2 (.inr rfl)), HB3.out⟩, by simp [intOf]; omega⟩
        · obtain rfl : k = N := by omega
          have hNn := HN.out
          have hd : decide ((k : Int) ≤ s.size) = false := decide_eq_false (by omega)
          have hd' : decide (k ≤ s.size) = false := decide_eq_false (by omega)
          have HQ := hidden hlt
          clear hNn
          go_wp2
          have hlt' := HQ.out
          exact ⟨⟨p + 1, by omega, by go_num, HT2.out.congr bh_row, HB2.out⟩, by simp [intOf]; omega⟩
    · obtain rfl : p = N := by omega
      have hNn := HN.out
      have hd : decide ((p : Int) ≤ s.size) = false := decide_eq_false (by omega)
      have hd' : decide (p ≤ s.size) = false := decide_eq_false (by omega)
      clear hNn
      go_wp2
      go_ret
      exact ⟨g, cap, rs, rfl, HT1.out.congr bh_all', HB1.out⟩
end Go.Proofs.YtbokhofdgdcpdaaDoor

/- Contract of the reference's again; tables that are read alone. -/
namespace Go.Proofs.YtbokhofdgdcpdaaDoor
open Go.RowKit Go.Lib Go.Joins

/-- what a call hands back that is a table, or hands one on -/
def RetR (w : World) (N : Nat) (M : Nat → Nat → Bool) (e : Ending) (w' : World) : Prop := ∃ v, e = .returned v ∧ MatR w' v N M ∧ Below w.heap.size w w'
theorem RetM.toR {w w' : World} {N : Nat} {M : Nat → Nat → Bool} {e : Ending} (h : RetM w N M e w') : RetR w N M e w' := by
  obtain ⟨g, cap, rs, rfl, ht, hb⟩ := h
  exact ⟨_, rfl, ht.reads, hb⟩
theorem RetR.congr {w w' : World} {N : Nat} {M M' : Nat → Nat → Bool} {e : Ending} (h : RetR w N M e w') (c : Alike N M M') : RetR w N M' e w' := by
  obtain ⟨v, rfl, ht, hb⟩ := h
  exact ⟨_, rfl, ht.congr c, hb⟩
theorem MatR.form {w : World} {v : Value} {N : Nat} {M : Nat → Nat → Bool} (h : MatR w v N M) : ∃ b off cap, v = .slice (some ⟨b, off, none⟩) N cap := by
  obtain ⟨b, off, cap, rfl, _⟩ := h
  exact ⟨b, off, cap, rfl⟩
section
variable (s : ByteArray) (w : World) (hs : s.size ≤ 1000)
include hs
theorem sameR : Calls Tryd.prog 95 #[.string s] w (RetR w (s.size + 1) mSame) := (msame_calls s w hs).mono fun _ _ h => h.toR
theorem setR (f : Nat → Bool) : Calls Tryd.prog 96 #[(.agg #[.int .u64 (word (f) 0), .int .u64 (word (f) 1), .int .u64 (word (f) 2), .int .u64 (word (f) 3)]), .string s] w (RetR w (s.size + 1) (mSet f (byN s))) := (mset_calls f s w hs).mono fun _ _ h => h.toR
theorem bothR {A B : Nat → Nat → Bool} {va vb : Value} (hA : MatR w va (s.size + 1) A) (hB : MatR w vb (s.size + 1) B) : Calls Tryd.prog 98 #[va, vb, .string s] w (RetR w (s.size + 1) (mBoth A B)) := (mboth_calls s A B va vb w hs hA hB).mono fun _ _ h => h.toR
theorem behindR {A B : Nat → Nat → Bool} {va vb : Value} (hA : MatR w va (s.size + 1) A) (hB : MatR w vb (s.size + 1) B) : Calls Tryd.prog 97 #[va, vb, .string s] w (RetR w (s.size + 1) (mBehind (s.size + 1) A B)) := (mbehind_calls s A B va vb w hs hA hB).mono fun _ _ h => h.toR
end
set_option maxHeartbeats 4000000 in
set_option maxRecDepth 100000 in
theorem again_calls (s : ByteArray) (A : Nat → Nat → Bool) (va : Value) (w : World) (hs : s.size ≤ 1000) (hA : MatR w va (s.size + 1) A) :
    Calls Tryd.prog 99 #[va, .string s] w fun e w' => ∃ t, s.size + 1 < 2 ^ t ∧ RetR w (s.size + 1) (mAgain (s.size + 1) A t) e w' := by
  have HA := hidden hA
  have HF := hidden (fun W va vb A B => @bothR s W hs A B va vb)
  have HG := hidden (fun W va vb A B => @behindR s W hs A B va vb)
  have hadd : IntKind.i64.wrap ((s.size : Int) + 1) = (s.size : Int) + 1 := by rw [IntKind.wrap_i64]; omega
  clear hA
  go_enter Tryd.func99, Tryd.ntmps99
  go_wp2
  go_loopw [5, 6] (fun v i wr => ∃ t m : Nat, Hid (m = 2 ^ t) ∧ 1 ≤ m ∧ m ≤ 2 * (s.size + 1) ∧ i = .int .i64 m ∧ MatR wr v (s.size + 1) (mAgain (s.size + 1) A t) ∧ Below w.heap.size w wr) (fun _ i _ => 2 * (s.size + 1) + 1 - (intOf i).toNat)
  case atStart => exact ⟨0, 1, hidden rfl, by omega, by omega, rfl, HA.out, Below.refl _ _⟩
  case round =>
    obtain ⟨t, m, hm, h1, h2, rfl, hM, hb⟩ := hrel
    have HM := hidden hM
    have HB := hidden hb
    obtain ⟨bv, ov, cv, rfl⟩ := hM.form
    clear hM hb
    by_cases hlt : m ≤ s.size + 1
    · have hd : decide ((m : Int) ≤ (s.size : Int) + 1) = true := decide_eq_true (by omega)
      have HL := hidden hlt
      go_wp2_with fail
      refine (HG.out _ _ _ _ _ HM.out HM.out).mono ?_
      rintro e w1 ⟨u, rfl, hu, hb1⟩
      have HU := hidden hu
      have HM1 := hidden (HM.out.below hb1)
      have HB1 := hidden (below_after HB.out hb1)
      obtain ⟨bu, ou, cu, rfl⟩ := hu.form
      clear hu hb1
      go_wp2_with fail
      refine (HF.out _ _ _ _ _ HM1.out HU.out).mono ?_
      rintro e w2 ⟨x, rfl, hx, hb2⟩
      have HX := hidden hx
      have HB2 := hidden (below_after HB1.out hb2)
      obtain ⟨bx, ox, cx, rfl⟩ := hx.form
      clear hx hb2
      go_wp2
      have hlt' := HL.out
      go_roundw
      case rel => exact ⟨t + 1, 2 * m, hidden (by rw [hm.out, Nat.pow_succ]; omega), by omega, by omega, by go_num, HX.out, HB2.out⟩
      case measure => simp [intOf]; omega
    · have hd : decide ((m : Int) ≤ (s.size : Int) + 1) = false := decide_eq_false (by omega)
      have HL := hidden hlt
      go_wp2
      go_ret
      exact ⟨t, by have := HL.out; have := hm.out; omega, _, rfl, HM.out, HB.out⟩
end Go.Proofs.YtbokhofdgdcpdaaDoor
