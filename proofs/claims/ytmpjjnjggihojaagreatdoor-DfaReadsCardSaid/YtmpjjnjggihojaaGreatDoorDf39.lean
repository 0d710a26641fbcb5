/- FaBehind, FaAgain, FaLeads, FaEnds, put together. -/
import Derived.Test.YtmpjjnjggihojaaGreatDoorDf38
import Derived.Test.YtmpjjnjggihojaaGreatDoorDf08
import Derived.Test.YtmpjjnjggihojaaGreatDoorDf04
/- Contracts of the reference's behind and again. -/
namespace Go.Proofs.YtmpjjnjggihojaaGreatDoor
open Go.RowKit Go.Lib Go.Joins

/-- how far a table is, with a place, the place between and the place behind -/
def bhTo (N : Nat) (A B : Nat → Nat → Bool) (p k q a b : Nat) : Bool :=
  (decide (a < p) && mBehind N A B a b) || (decide (a = p) && (((List.range k).any fun j => decide (p ≤ j) && (decide (j ≤ b) && (A p j && B j b))) || (decide (k ≤ b) && (decide (b < q) && (A p k && B k b)))))
section
variable {N : Nat} {A B : Nat → Nat → Bool}
theorem bh_start : Alike N (fun _ _ => false) (bhTo N A B 0 0 0) := fun a b _ _ => by simp [bhTo]
theorem bh_put {p k q : Nat} {x : Bool} (hk : k ≤ q) (hA : A p k = true) (hx : x = (bhTo N A B p k q p q || B k q)) : Alike N (fun a b => if a = p ∧ b = q then x else bhTo N A B p k q a b) (bhTo N A B p k (q + 1)) := fun a b _ _ => by
  subst hx
  by_cases e : a = p
  · subst e
    by_cases e2 : b = q
    · subst e2
      simp [bhTo, hA, hk]
    · have h1 : decide (b < q) = decide (b < q + 1) := by simp; omega
      simp only [bhTo, e2, and_false, if_false, h1]
  · simp [bhTo, e]
theorem bh_mid {p k q : Nat} (hp : p ≤ k) (h : A p k = false ∨ q = N) : Alike N (bhTo N A B p k q) (bhTo N A B p (k + 1) (k + 1)) := fun a b _ hb => by
  have h0 : (decide (k + 1 ≤ b) && (decide (b < k + 1) && (A p (k + 1) && B (k + 1) b))) = false := by
    by_cases c : k + 1 ≤ b
    · simp [show ¬ b < k + 1 by omega]
    · simp [c]
  simp only [bhTo, h0, List.range_succ, List.any_append, List.any_cons, List.any_nil, Bool.or_false, hp, decide_true, Bool.true_and]
  rcases h with h | rfl
  · simp [h]
  · simp [hb]
theorem bh_row {p q : Nat} : Alike N (bhTo N A B p N q) (bhTo N A B (p + 1) (p + 1) (p + 1)) := fun a b _ hb => by
  have h1 : ((List.range (p + 1)).any fun j => decide (p + 1 ≤ j) && (decide (j ≤ b) && (A (p + 1) j && B j b))) = false := by
    rw [List.any_eq_false]
    intro j hj
    have := List.mem_range.1 hj
    simp [show ¬ p + 1 ≤ j by omega]
  have h2 : (decide (p + 1 ≤ b) && (decide (b < p + 1) && (A (p + 1) (p + 1) && B (p + 1) b))) = false := by
    by_cases c : p + 1 ≤ b
    · simp [show ¬ b < p + 1 by omega]
    · simp [c]
  have h3 : decide (N ≤ b) = false := decide_eq_false (by omega)
  simp only [bhTo, h1, h2, h3, Bool.false_and, Bool.or_false, Bool.and_false]
  by_cases e : a = p
  · subst e
    simp [mBehind]
  · by_cases e2 : a < p
    · simp [e, e2, show a < p + 1 by omega]
    · simp [e, e2, show ¬ a < p + 1 by omega]
theorem bh_all' {k q : Nat} : Alike N (bhTo N A B N k q) (mBehind N A B) := fun a b ha hb => by
  simp [bhTo, ha, show ¬ a = N by omega]
end

set_option maxHeartbeats 8000000 in
set_option maxRecDepth 100000 in
theorem mbehind_calls (s : ByteArray) (A B : Nat → Nat → Bool) (va vb : Value) (w : World) (hs : s.size ≤ 1000) (hA : MatR w va (s.size + 1) A) (hB : MatR w vb (s.size + 1) B) :
    Calls Tryz.prog 85 #[va, vb, .string s] w (RetM w (s.size + 1) (mBehind (s.size + 1) A B)) := by
  have H0 := hidden (none_calls s w hs)
  have hA0 := hA
  have hB0 := hB
  obtain ⟨ba, oa, cpa, rfl, _⟩ := hA0
  obtain ⟨bb, ob, cpb, rfl, _⟩ := hB0
  obtain ⟨N, hN⟩ : ∃ N, N = s.size + 1 := ⟨_, rfl⟩
  rw [← hN] at H0 hA hB ⊢
  have hNle : N ≤ 1001 := by omega
  have HN := hidden hN
  have HAr := hidden hA
  have HBr := hidden hB
  clear hN hA hB
  go_enter Tryz.func85, Tryz.ntmps85
  go_wp2_with fail
  refine H0.out.mono ?_
  rintro e w1 ⟨g, cap, rs, rfl, ht, hb⟩
  have HT := hidden ht
  have HB := hidden hb
  clear ht hb
  go_wp2
  go_loopw [8, 9, 10] (fun i _ _ wr => ∃ p : Nat, p ≤ N ∧ i = .int .i64 p ∧ TabW wr w.heap.size g cap rs N (bhTo N A B p p p) ∧ Below w.heap.size w wr) (fun i _ _ _ => N - (Go.RowKit.intOf i).toNat)
  case atStart => exact ⟨0, by omega, rfl, HT.out.congr bh_start, HB.out⟩
  case round =>
    obtain ⟨p, hp, rfl, ht, hb⟩ := hrel
    have HT1 := hidden ht
    have HB1 := hidden hb
    clear ht hb
    by_cases hlt : p < N
    · have hNn := HN.out
      have hps : p ≤ s.size := by omega
      have hd : decide ((p : Int) ≤ s.size) = true := decide_eq_true (by omega)
      have hd' : decide (p ≤ s.size) = true := decide_eq_true (by omega)
      clear hNn
      go_wp2
      obtain ⟨wo, rfl⟩ : ∃ wo : World, wo = wr := ⟨_, rfl⟩
      go_loopw [9, 10] (fun i _ wi => ∃ k : Nat, p ≤ k ∧ k ≤ N ∧ i = .int .i64 k ∧ TabW wi w.heap.size g cap rs N (bhTo N A B p k k) ∧ Below w.heap.size w wi) (fun i _ _ => N - (Go.RowKit.intOf i).toNat)
      case atStart => exact ⟨p, by omega, by omega, rfl, HT1.out, HB1.out⟩
      case round =>
        obtain ⟨k, hpk, hk, rfl, ht, hb⟩ := hrel
        have HT2 := hidden ht
        have HB2 := hidden hb
        clear ht hb
        by_cases hlk : k < N
        · have hNn := HN.out
          have hks : k ≤ s.size := by omega
          have e0 : decide ((k : Int) ≤ s.size) = true := decide_eq_true (by omega)
          have e0' : decide (k ≤ s.size) = true := decide_eq_true (by omega)
          clear hNn
          go_wp2
          obtain ⟨wo, rfl⟩ : ∃ wo : World, wo = wr := ⟨_, rfl⟩
          go_loopw [10] (fun i wi => ∃ q : Nat, k ≤ q ∧ q ≤ N ∧ i = .int .i64 q ∧ TabW wi w.heap.size g cap rs N (bhTo N A B p k q) ∧ Below w.heap.size w wi) (fun i _ => N - (Go.RowKit.intOf i).toNat)
          case atStart => exact ⟨k, by omega, by omega, rfl, HT2.out, HB2.out⟩
          case round =>
            obtain ⟨q, hkq, hq, rfl, ht, hb⟩ := hrel
            have HT3 := hidden ht
            have HB3 := hidden hb
            clear ht hb
            obtain ⟨_, _, _, ea, ha⟩ := HAr.out.below HB3.out
            cases ea
            obtain ⟨ca, oca, cca, a1, a2, _⟩ := ha p hlt
            have a3 := a2 k hlk
            obtain ⟨x, hx⟩ : ∃ x, x = A p k := ⟨_, rfl⟩
            rw [← hx] at a3
            clear a2 ha
            cases x
            · have HX := hidden (show A p k = false from hx.symm)
              have HLK := hidden (And.intro hlk hpk)
              clear hx
              go_wp2
              have hh := HLK.out
              exact ⟨⟨k + 1, by omega, by omega, by go_num, HT3.out.congr (bh_mid hh.2 (.inl HX.out)), HB3.out⟩, by simp [Go.RowKit.intOf]; omega⟩
            · have HX := hidden (show A p k = true from hx.symm)
              clear hx
              by_cases hlq : q < N
              · have hNn := HN.out
                have e1 : decide ((q : Int) ≤ s.size) = true := decide_eq_true (by omega)
                have e1' : decide (q ≤ s.size) = true := decide_eq_true (by omega)
                obtain ⟨c, hc⟩ : ∃ c, c = rs.getD p 0 := ⟨_, rfl⟩
                have d1 := HT3.out.cell1 (p := p) hlt
                have d2 := HT3.out.cell2 hlt hlq
                have d3 := HT3.out.frozen2 q hlt
                have t4 := fun x hx => (HT3.out.set hlt q x).congr (bh_put hkq HX.out hx)
                have b4 := fun x => HB3.out.setCell (p := ⟨rs.getD p 0, q, none⟩) (HT3.out.low p hlt) (.bool x)
                rw [← hc] at d1 d2 d3
                simp only [← hc] at t4 b4
                obtain ⟨_, _, _, eb, hb'⟩ := HBr.out.below HB3.out
                cases eb
                obtain ⟨cb, ocb, ccb, b1, b2, _⟩ := hb' k hlk
                have b3 := b2 q hlq
                have T4 := hidden t4
                have B4 := hidden b4
                clear t4 b4
                generalize bhTo N A B p k q p q = x at *
                generalize B k q = y at *
                clear hc b2 hb' hNn
                cases x
                · have T5 := hidden (T4.out y (by simp))
                  have B5 := hidden (B4.out y)
                  clear T4 B4
                  go_wp2
                  go_region
                  all_goals
                    go_wp2
                    go_roundw
                    case rel => exact ⟨q + 1, by omega, by omega, by go_num, T5.out.drew, B5.out.drew⟩
                    case measure => simp [Go.RowKit.intOf]; omega
                · have T5 := hidden (T4.out true (by simp))
                  have B5 := hidden (B4.out true)
                  clear T4 B4
                  go_wp2
                  go_region
                  all_goals
                    go_wp2
                    go_roundw
                    case rel => exact ⟨q + 1, by omega, by omega, by go_num, T5.out.drew, B5.out.drew⟩
                    case measure => simp [Go.RowKit.intOf]; omega
              · obtain rfl : q = N := by omega
                have hNn := HN.out
                have hd : decide ((q : Int) ≤ s.size) = false := decide_eq_false (by omega)
                have hd' : decide (q ≤ s.size) = false := decide_eq_false (by omega)
                have HLK := hidden (And.intro hlk hpk)
                clear hNn
                go_wp2
                have hh := HLK.out
                exact ⟨⟨k + 1, by omega, by omega, by go_num, HT3.out.congr (bh_mid hh.2 (.inr rfl)), HB3.out⟩, by simp [Go.RowKit.intOf]; omega⟩
        · obtain rfl : k = N := by omega
          have hNn := HN.out
          have hd : decide ((k : Int) ≤ s.size) = false := decide_eq_false (by omega)
          have hd' : decide (k ≤ s.size) = false := decide_eq_false (by omega)
          have HQ := hidden hlt
          clear hNn
          go_wp2
          have hlt' := HQ.out
          exact ⟨⟨p + 1, by omega, by go_num, HT2.out.congr bh_row, HB2.out⟩, by simp [Go.RowKit.intOf]; omega⟩
    · obtain rfl : p = N := by omega
      have hNn := HN.out
      have hd : decide ((p : Int) ≤ s.size) = false := decide_eq_false (by omega)
      have hd' : decide (p ≤ s.size) = false := decide_eq_false (by omega)
      clear hNn
      go_wp2
      go_ret
      exact ⟨g, cap, rs, rfl, HT1.out.congr bh_all', HB1.out⟩
end Go.Proofs.YtmpjjnjggihojaaGreatDoor

/- Contract of the reference's again; tables that are read alone. -/
namespace Go.Proofs.YtmpjjnjggihojaaGreatDoor
open Go.RowKit Go.Lib Go.Joins

/-- what a call hands back that is a table, or hands one on -/
def RetR (w : World) (N : Nat) (M : Nat → Nat → Bool) (e : Ending) (w' : World) : Prop := ∃ v, e = .returned v ∧ MatR w' v N M ∧ Below w.heap.size w w'
theorem RetM.toR {w w' : World} {N : Nat} {M : Nat → Nat → Bool} {e : Ending} (h : RetM w N M e w') : RetR w N M e w' := by
  obtain ⟨g, cap, rs, rfl, ht, hb⟩ := h
  exact ⟨_, rfl, ht.reads, hb⟩
theorem RetR.congr {w w' : World} {N : Nat} {M M' : Nat → Nat → Bool} {e : Ending} (h : RetR w N M e w') (c : Alike N M M') : RetR w N M' e w' := by
  obtain ⟨v, rfl, ht, hb⟩ := h
  exact ⟨_, rfl, ht.congr c, hb⟩
theorem MatR.form {w : World} {v : Value} {N : Nat} {M : Nat → Nat → Bool} (h : MatR w v N M) : ∃ b off cap, v = .slice (some ⟨b, off, none⟩) N cap := by
  obtain ⟨b, off, cap, rfl, _⟩ := h
  exact ⟨b, off, cap, rfl⟩
section
variable (s : ByteArray) (w : World) (hs : s.size ≤ 1000)
include hs
theorem sameR : Calls Tryz.prog 83 #[.string s] w (RetR w (s.size + 1) mSame) := (msame_calls s w hs).mono fun _ _ h => h.toR
theorem setR (f : Nat → Bool) : Calls Tryz.prog 84 #[(.agg #[.int .u64 (word (f) 0), .int .u64 (word (f) 1), .int .u64 (word (f) 2), .int .u64 (word (f) 3)]), .string s] w (RetR w (s.size + 1) (mSet f (byN s))) := (mset_calls f s w hs).mono fun _ _ h => h.toR
theorem bothR {A B : Nat → Nat → Bool} {va vb : Value} (hA : MatR w va (s.size + 1) A) (hB : MatR w vb (s.size + 1) B) : Calls Tryz.prog 86 #[va, vb, .string s] w (RetR w (s.size + 1) (mBoth A B)) := (mboth_calls s A B va vb w hs hA hB).mono fun _ _ h => h.toR
theorem behindR {A B : Nat → Nat → Bool} {va vb : Value} (hA : MatR w va (s.size + 1) A) (hB : MatR w vb (s.size + 1) B) : Calls Tryz.prog 85 #[va, vb, .string s] w (RetR w (s.size + 1) (mBehind (s.size + 1) A B)) := (mbehind_calls s A B va vb w hs hA hB).mono fun _ _ h => h.toR
end
set_option maxHeartbeats 4000000 in
set_option maxRecDepth 100000 in
theorem again_calls (s : ByteArray) (A : Nat → Nat → Bool) (va : Value) (w : World) (hs : s.size ≤ 1000) (hA : MatR w va (s.size + 1) A) :
    Calls Tryz.prog 87 #[va, .string s] w fun e w' => ∃ t, s.size + 1 < 2 ^ t ∧ RetR w (s.size + 1) (mAgain (s.size + 1) A t) e w' := by
  have HA := hidden hA
  have HF := hidden (fun W va vb A B => @bothR s W hs A B va vb)
  have HG := hidden (fun W va vb A B => @behindR s W hs A B va vb)
  have hadd : IntKind.i64.wrap ((s.size : Int) + 1) = (s.size : Int) + 1 := by rw [IntKind.wrap_i64]; omega
  clear hA
  go_enter Tryz.func87, Tryz.ntmps87
  go_wp2
  go_loopw [5, 6] (fun v i wr => ∃ t m : Nat, Hid (m = 2 ^ t) ∧ 1 ≤ m ∧ m ≤ 2 * (s.size + 1) ∧ i = .int .i64 m ∧ MatR wr v (s.size + 1) (mAgain (s.size + 1) A t) ∧ Below w.heap.size w wr) (fun _ i _ => 2 * (s.size + 1) + 1 - (Go.RowKit.intOf i).toNat)
  case atStart => exact ⟨0, 1, hidden rfl, by omega, by omega, rfl, HA.out, Below.refl _ _⟩
  case round =>
    obtain ⟨t, m, hm, h1, h2, rfl, hM, hb⟩ := hrel
    have HM := hidden hM
    have HB := hidden hb
    obtain ⟨bv, ov, cv, rfl⟩ := hM.form
    clear hM hb
    by_cases hlt : m ≤ s.size + 1
    · have hd : decide ((m : Int) ≤ (s.size : Int) + 1) = true := decide_eq_true (by omega)
      have HL := hidden hlt
      go_wp2_with fail
      refine (HG.out _ _ _ _ _ HM.out HM.out).mono ?_
      rintro e w1 ⟨u, rfl, hu, hb1⟩
      have HU := hidden hu
      have HM1 := hidden (HM.out.below hb1)
      have HB1 := hidden (below_after HB.out hb1)
      obtain ⟨bu, ou, cu, rfl⟩ := hu.form
      clear hu hb1
      go_wp2_with fail
      refine (HF.out _ _ _ _ _ HM1.out HU.out).mono ?_
      rintro e w2 ⟨x, rfl, hx, hb2⟩
      have HX := hidden hx
      have HB2 := hidden (below_after HB1.out hb2)
      obtain ⟨bx, ox, cx, rfl⟩ := hx.form
      clear hx hb2
      go_wp2
      have hlt' := HL.out
      go_roundw
      case rel => exact ⟨t + 1, 2 * m, hidden (by rw [hm.out, Nat.pow_succ]; omega), by omega, by omega, by go_num, HX.out, HB2.out⟩
      case measure => simp [Go.RowKit.intOf]; omega
    · have hd : decide ((m : Int) ≤ (s.size : Int) + 1) = false := decide_eq_false (by omega)
      have HL := hidden hlt
      go_wp2
      go_ret
      exact ⟨t, by have := HL.out; have := hm.out; omega, _, rfl, HM.out, HB.out⟩
end Go.Proofs.YtmpjjnjggihojaaGreatDoor

/- Contract of the reference's leads: step by step, a table for each tree that waits. -/
namespace Go.Proofs.YtmpjjnjggihojaaGreatDoor
open Go.RowKit Go.Lib Go.Joins

/-- slice value v reads as a list of tables -/
def StR (w : World) (v : Value) (N : Nat) (Ms : List (Nat → Nat → Bool)) : Prop :=
  ∃ b cap, ∃ vals : List Value, v = .slice (some ⟨b, 0, none⟩) vals.length cap ∧ vals.length ≤ cap ∧ vals.length = Ms.length ∧ (∀ j u, vals[j]? = some u → w.cell? ⟨b, j, none⟩ = some u) ∧ ∀ j u, vals[j]? = some u → MatR w u N (Ms.getD j mSame)
theorem StR.below {w w' : World} {v : Value} {N : Nat} {Ms : List (Nat → Nat → Bool)} (h : StR w v N Ms) (hb : Below w.heap.size w w') : StR w' v N Ms := by
  obtain ⟨b, cap, vals, rfl, h1, h2, h3, h4⟩ := h
  exact ⟨b, cap, vals, rfl, h1, h2, fun j u hj => (hb.cell (p := ⟨b, j, none⟩) (cell_lt (h3 j u hj))).trans (h3 j u hj), fun j u hj => (h4 j u hj).below hb⟩
theorem infoBB : (Tryz.prog.info? 100).map (fun i => (i.zero, i.size, i.bytes)) = some (some (.slice none 0 0), 1, 24) := by kernel_rfl
/-- the first n, and one more -/
theorem StR.next {w w' : World} {N base n cap' : Nat} {g : Addr} {vals : List Value} {u : Value} {Ms : List (Nat → Nat → Bool)} {M : Nat → Nat → Bool} (hl : vals.length = Ms.length) (h4 : ∀ j u, vals[j]? = some u → MatR w u N (Ms.getD j mSame)) (hn : n ≤ vals.length) (hu : MatR w u N M)
    (hown : w'.ownsRow base 100 1 (.slice (some g) (n + 1) cap') (n + 1) (vals.take n ++ [u])) (hb : Below w.heap.size w w') : StR w' (.slice (some g) (n + 1) cap') N (Ms.take n ++ [M]) := by
  have hlen : (vals.take n ++ [u]).length = n + 1 := by simp; omega
  rcases hown.2 with ⟨h, _⟩ | ⟨g', c', cur, e, _, hg, h5, _⟩
  · cases h
  · simp only [Value.slice.injEq, Option.some.injEq, true_and] at e
    obtain ⟨rfl, rfl⟩ := e
    refine ⟨g', cap', vals.take n ++ [u], by rw [hlen], by rw [hlen]; exact h5, by rw [hlen]; simp; omega, fun j x hj => ?_, fun j x hj => ?_⟩
    · have hjl : j < n + 1 := by rw [← hlen]; exact (List.getElem?_eq_some_iff.1 hj).1
      rw [World.ownsRow.cellAt hown j (by omega)]
      exact hj
    · by_cases hjn : j < n
      · rw [List.getElem?_append_left (by simp; omega), List.getElem?_take, if_pos hjn] at hj
        have h6 := (h4 j x hj).below hb
        have e : (Ms.take n ++ [M]).getD j mSame = Ms.getD j mSame := by
          rw [List.getD_eq_getElem?_getD, List.getD_eq_getElem?_getD, List.getElem?_append_left (by simp; omega), List.getElem?_take, if_pos hjn]
        rw [e]
        exact h6
      · have hjl : j < n + 1 := by rw [← hlen]; exact (List.getElem?_eq_some_iff.1 hj).1
        obtain rfl : j = n := by omega
        have hl1 : (vals.take j).length = j := by simp; omega
        have hl2 : (Ms.take j).length = j := by simp; omega
        rw [List.getElem?_append_right (by omega), hl1, Nat.sub_self] at hj
        simp only [List.getElem?_cons_zero, Option.some.injEq] at hj
        subst hj
        have e : (Ms.take j ++ [M]).getD j mSame = M := by
          rw [List.getD_eq_getElem?_getD, List.getElem?_append_right (by omega), hl2, Nat.sub_self]
          rfl
        rw [e]
        exact hu.below hb
/-- the tables of the trees -/
noncomputable def tabs (W : List Nat) (es : List Ex) : List (Nat → Nat → Bool) := es.map fun e => lgB e W
theorem tabs_len (W : List Nat) (es : List Ex) : (tabs W es).length = es.length := by simp [tabs]
theorem tabs_at (W : List Nat) (r q : List Ex) (e : Ex) (j : Nat) (hj : j = r.length) : (tabs W (r ++ e :: q)).getD j mSame = lgB e W := by
  subst hj
  simp [tabs, List.getD_eq_getElem?_getD]
theorem tabs_take (W : List Nat) (r q : List Ex) (e : Ex) (j : Nat) (hj : j = r.length) : (tabs W (r ++ q)).take j ++ [lgB e W] = tabs W (r ++ [e]) := by
  subst hj
  have h : (r.map fun e => lgB e W).length = r.length := by simp
  unfold tabs
  rw [List.map_append, ← h, List.take_left, List.map_append]
  rfl
theorem tabs_take0 (W : List Nat) (r : List Ex) (e : Ex) (j : Nat) (hj : j = r.length) : (tabs W r).take j ++ [lgB e W] = tabs W (r ++ [e]) := by
  have := tabs_take W r [] e j hj
  rwa [List.append_nil] at this
/-- the first n tables are put into a new list -/
theorem app_copy {w : World} {ops : Array Oper} {rest : List Oper} {o : Oper} {a : Act} {Q : Exit → Act → World → Prop} (hgd : o.guard = none) (s x : Operand)
    (ho : o.op = .call { callee := .builtin .append, args := #[s, x], argTypes := #[115, 115] }) {b0 sb n scap : Nat} {vals : List Value}
    (hs : a.eval s = .slice (some ⟨b0, 0, none⟩) 0 0) (hb0 : w.heap[b0]? = some (.cells #[] 100)) (hx : a.eval x = .slice (some ⟨sb, 0, none⟩) n scap)
    (hc : ∀ j u, vals[j]? = some u → w.cell? ⟨sb, j, none⟩ = some u) (h1 : ∀ u ∈ vals, u.oneCell' = true) (hn : n ≤ vals.length) (hn2 : n ≤ 1000)
    (h : ∀ g' c' w', w'.ownsRow b0 100 1 (.slice (some ⟨g', 0, none⟩) n c') n (vals.take n) → Below b0 w w' → wpList Tryz.prog ops Q rest (a.put o.dst (.slice (some ⟨g', 0, none⟩) n c')) w') : wpList Tryz.prog ops Q (o :: rest) a w := by
  obtain ⟨i0, hi, hz0, hz1, hz2⟩ := info_parts infoBB
  have hlt := (Array.getElem?_eq_some_iff.1 hb0).1
  have hown : w.ownsRow b0 100 1 (.slice (some ⟨b0, 0, none⟩) 0 0) 0 [] := ⟨rfl, .inr ⟨b0, 0, #[], rfl, Nat.le_refl _, hb0, Nat.le_refl _, by decide, rfl, rfl⟩⟩
  refine wpList_append_own w hgd s x 115 ho b0 100 i0 _ 1 24 Tryz.underlying115 hi hz0 hz1 hz2 rfl (by decide) _ 0 [] hs hown ⟨sb, 0, none⟩ n scap (vals.take n) hx (by simp; omega) (fun j u hj => ?_) (fun u hu => h1 u (List.mem_of_mem_take hu)) (by unfold maxLen; omega) (by omega) (Nat.le_of_lt hlt) fun v' w' h3 h4 hnil => ?_
  · rw [List.getElem?_take] at hj
    split at hj
    · rw [Addr.add_lit, Nat.zero_add]; exact hc j u hj
    · cases hj
  · rw [Nat.zero_add, List.nil_append] at h3
    have hb : Below b0 w w' := (Below.refl b0 w).grown h4 (Nat.le_of_lt hlt) fun k e => by simp only [Value.ownBlock, Option.some.injEq] at e; omega
    rcases ownsRow_forms h3 with ⟨rfl, h0⟩ | ⟨g, c, rfl⟩
    · cases (hnil.1 rfl).1
    · exact h g c w' h3 hb
/-- and one more -/
theorem app_one {w : World} {ops : Array Oper} {rest : List Oper} {o : Oper} {a : Act} {Q : Exit → Act → World → Prop} (hgd : o.guard = none) (s x : Operand)
    (ho : o.op = .call { callee := .builtin .append, args := #[s, x], argTypes := #[115, 115] }) {b0 g c n xb : Nat} {xs : List Value} {u : Value}
    (hs : a.eval s = .slice (some ⟨g, 0, none⟩) n c) (hown : w.ownsRow b0 100 1 (.slice (some ⟨g, 0, none⟩) n c) n xs) (hx : a.eval x = .slice (some ⟨xb, 0, none⟩) 1 1)
    (hxb : w.heap[xb]? = some (.cells #[u] 100)) (h1 : u.oneCell' = true) (hn2 : n ≤ 1000) (hb0 : b0 ≤ w.heap.size)
    (h : ∀ g' c' w', w'.ownsRow b0 100 1 (.slice (some ⟨g', 0, none⟩) (n + 1) c') (n + 1) (xs ++ [u]) → Below b0 w w' → wpList Tryz.prog ops Q rest (a.put o.dst (.slice (some ⟨g', 0, none⟩) (n + 1) c')) w') : wpList Tryz.prog ops Q (o :: rest) a w := by
  obtain ⟨i0, hi, hz0, hz1, hz2⟩ := info_parts infoBB
  refine wpList_append_own w hgd s x 115 ho b0 100 i0 _ 1 24 Tryz.underlying115 hi hz0 hz1 hz2 rfl (by decide) _ n xs hs hown ⟨xb, 0, none⟩ 1 1 [u] hx rfl (fun j x hj => ?_) (fun x hx => by simp at hx; subst hx; exact h1) (by unfold maxLen; omega) (by omega) hb0 fun v' w' h3 h4 _ => ?_
  · match j, hj with
    | 0, hj =>
      simp only [List.getElem?_cons_zero, Option.some.injEq] at hj
      subst hj
      rw [Addr.add_lit, cell_of_row w xb _ _ _ _ hxb]
      rfl
  · have hb : Below b0 w w' := (Below.refl b0 w).grown h4 hb0 fun k e => (hown.lt k e).1
    rcases ownsRow_forms h3 with ⟨_, h0⟩ | ⟨g, c, rfl⟩
    · omega
    · exact h g c w' h3 hb
set_option maxHeartbeats 16000000 in
set_option maxRecDepth 100000 in
theorem leads_calls {C : Nat → Prop} {v0 : Value} {L : List Stp} {w : World} (h : SlX C w v0 L) (hC : ∀ b, C b → b < w.heap.size) (s : ByteArray) (hs : s.size ≤ 1000) (hv : (measV L).2 = 0) (hwd : ∀ s ∈ L, s.wide) :
    Calls Tryz.prog 64 #[v0, .string s] w (RetR w (s.size + 1) (lgB (treeE L) (byN s))) := by
  obtain ⟨h512, hE⟩ := meas_expr hv
  have hpos := expr_ne hE
  obtain ⟨a, cap, rfl, hl, hcap, _, hS⟩ := h
  obtain ⟨b, off, rfl, hCb, hc⟩ := hS.2 hpos
  have hbl := hC b hCb
  obtain ⟨hone, hok, _⟩ := tree_of hE hwd
  obtain ⟨i0, hi, hz0, hz1, hz2⟩ := info_parts infoBB
  have HNX := hidden (fun k (hk : k < L.length) => next_of hk hE.1 hwd (forms_at hE.1 hwd k (by omega)))
  have HFO := hidden (fun k (hk : k ≤ L.length) => forms_at hE.1 hwd k hk)
  have HCE := hidden (fun W (hW : Below w.heap.size w W) k (hk : k < L.length) => (hc k hk).kept (w' := W) (hW.block b hbl))
  have HONE := hidden hone
  obtain ⟨n, hn⟩ : ∃ n, n = L.length := ⟨_, rfl⟩
  rw [← hn] at HNX HFO HCE HONE h512 hpos hl ⊢
  obtain ⟨WD, hWD⟩ : ∃ WD, WD = byN s := ⟨_, rfl⟩
  have HLen := hidden (byN_len s)
  have HLt := hidden (byN_lt s)
  have HSET := hidden (fun W f => setR s W hs f)
  rw [← hWD] at HLen HLt HSET ⊢
  obtain ⟨T, hT⟩ : ∃ T, T = trees L := ⟨_, rfl⟩
  rw [← hT] at HNX HFO HONE
  have HO := hidden (fun k W => rof_calls k W)
  have HSAME := hidden (fun W => sameR s W hs)
  have HBOTH := hidden (fun W va vb A B => @bothR s W hs A B va vb)
  have HBEH := hidden (fun W va vb A B => @behindR s W hs A B va vb)
  have HAG := hidden (fun W va A => again_calls s A va W hs)
  have HL1 : Hid (WD.length + 1 = s.size + 1) := hidden (by rw [HLen.out])
  have HST0 := hidden (show StR (w.alloc (.cells #[] 100)) (.slice (some ⟨w.heap.size, 0, none⟩) 0 0) (s.size + 1) (tabs WD (T 0)) from by
    have e : T 0 = [] := by rw [hT]; rfl
    rw [e]
    exact ⟨_, 0, [], rfl, Nat.le_refl _, rfl, fun j u hj => by simp at hj, fun j u hj => by simp at hj⟩)
  clear hE hS hc hC hCb hone hok hv hwd hn hT hWD hcap
  go_enter Tryz.func64, Tryz.ntmps64
  go_wp2
  go_loopw [5, 6, 7, 8] (fun v i _ _ wr => ∃ k : Nat, k ≤ n ∧ i = .int .i64 k ∧ StR wr v (s.size + 1) (tabs WD (T k)) ∧ Below w.heap.size w wr) (fun _ i _ _ _ => n - (Go.RowKit.intOf i).toNat)
  case atStart => exact ⟨0, by omega, rfl, HST0.out, (Below.refl _ _).alloc (Nat.le_refl _) _⟩
  case round =>
    obtain ⟨k, hk, rfl, hst, hb⟩ := hrel
    have HST := hidden hst
    have HB := hidden hb
    obtain ⟨sb, scap, vals, rfl, v1, v2, v3, v4⟩ := hst
    have HV := hidden (And.intro v2 (And.intro v3 v4))
    clear hb v3 v4
    by_cases hlt : k < n
    · obtain ⟨hnx, _⟩ := HNX.out k hlt
      have HR := hidden (fun W (hW : Below wr.heap.size wr W) => HCE.out W (below_after HB.out hW) k hlt)
      have HVB := hidden (fun W (hW : Below wr.heap.size wr W) => (show (∀ j u, vals[j]? = some u → W.cell? ⟨sb, j, none⟩ = some u) ∧ ∀ j u, vals[j]? = some u → MatR W u (s.size + 1) ((tabs WD (T k)).getD j mSame) from
        ⟨fun j u hj => (hW.cell (p := ⟨sb, j, none⟩) (cell_lt (HV.out.2.1 j u hj))).trans (HV.out.2.1 j u hj), fun j u hj => (HV.out.2.2 j u hj).below hW⟩))
      have HK1 := hidden hlt
      have hvl : vals.length ≤ 512 := by
        rw [v2, tabs_len]
        obtain ⟨g1, g2⟩ := HFO.out k hk
        have h1 := flat_net _ g2
        have h3 : ∀ es : List Ex, es.length ≤ (es.flatMap ops).length := fun es => by
          induction es with
          | nil => simp
          | cons e r ih =>
            have := ops_pos e
            simp only [List.flatMap_cons, List.length_append, List.length_cons]
            omega
        have h2 := h3 (T k)
        rw [g1, List.length_take] at h2
        omega
      generalize L.getD k default = sk at *
      rw [tabs_len] at v2
      obtain ⟨TK, hTK⟩ : ∃ TK, TK = T k := ⟨_, rfl⟩
      obtain ⟨TK1, hTK1⟩ : ∃ TK1, TK1 = T (k + 1) := ⟨_, rfl⟩
      rw [← hTK] at hnx HV HVB HST v2
      rw [← hTK1] at hnx
      have HTK1 := hidden hTK1
      obtain ⟨K, hK⟩ : ∃ K, K = vals.length := ⟨_, rfl⟩
      rw [← hK] at v2 hvl v1 ⊢
      have HK := hidden hK
      clear hTK hTK1 hlt
      cases hnx with
      | set r h1 he =>
        have hkind : sk.k = 1 := h1
        obtain ⟨f, hf⟩ : ∃ f, f = bitsE sk := ⟨_, rfl⟩
        rw [← hf] at he HTK1
        have HKc := hidden (fun (W : World) (hW : Below wr.heap.size wr W) => (show W.cell? ⟨b, off + k * 5, none⟩ = some (.int .i64 (1)) from by have := (HR.out W hW).1; rw [hkind] at this; exact this))
        have HOk := hidden (fun (W : World) => (show Calls Tryz.prog 78 #[.int .i64 (1)] W fun e w' => e = .returned (.int .i64 (0)) ∧ W = w' from HO.out (1) W))
        have c0 := HKc.out wr (Below.refl _ _)
        have HW := hidden (fun (W : World) (hW : Below wr.heap.size wr W) => (show W.cell? ⟨b, off + k * 5 + 1, none⟩ = some (.int .u64 (word f 0)) ∧ W.cell? ⟨b, off + k * 5 + 2, none⟩ = some (.int .u64 (word f 1)) ∧ W.cell? ⟨b, off + k * 5 + 3, none⟩ = some (.int .u64 (word f 2)) ∧ W.cell? ⟨b, off + k * 5 + 4, none⟩ = some (.int .u64 (word f 3)) from by have := (HR.out W hW).2; rw [he] at this; exact this))
        have hn' : K ≤ 1000 := by omega
        have HN2 := hidden (show K ≤ vals.length by omega)
        have HN3 := hidden hn'
        have HNR := hidden (show K = TK.length from v2)
        have HV2 := hidden (show vals.length = (tabs WD TK).length by rw [tabs_len, ← v2, hK])
        have hw0 : IntKind.i64.wrap (K : Int) = (K : Int) := by rw [IntKind.wrap_i64]; omega
        clear he hf hkind h1 hK v2
        go_wp2_with fail
        refine (HOk.out _).mono ?_
        rintro e w1 ⟨rfl, rfl⟩
        go_wp2_with fail
        refine (HSAME.out _).mono ?_
        rintro e w1 ⟨x, rfl, hx, hb1⟩
        have HX := hidden hx
        have HB1 := hidden hb1
        obtain ⟨bx, ox, cx, rfl⟩ := hx.form
        have c1 := HKc.out w1 hb1
        obtain ⟨c2, c3, c4, c5⟩ := HW.out w1 hb1
        clear hx hb1
        go_wp2_with fail
        refine (HSET.out _ f).mono ?_
        rintro e w2 ⟨u, rfl, hu, hb2⟩
        have hbm := below_after HB1.out hb2
        have HU := hidden (hu.congr (by have := mat_set f HLt.out; rw [HL1.out] at this; exact this))
        obtain ⟨bu, ou, cu, rfl⟩ := hu.form
        clear hu hb2
        have HBm := hidden (below_after HB.out hbm)
        have HBw := hidden hbm
        have HVm := hidden (HVB.out w2 hbm)
        have HONEC := hidden (fun u (hu : u ∈ vals) => (show u.oneCell' = true from by
          obtain ⟨j, hj⟩ := List.getElem?_of_mem hu
          obtain ⟨_, _, _, rfl⟩ := (HVm.out.2 j u hj).form
          rfl))
        clear hbm
        go_wp2_with (at_builtin; first
          | (refine app_copy (vals := vals) (b0 := w2.heap.size) rfl _ _ rfl rfl (heap_alloc_new w2 _) rfl (fun j u hj => (World.cell?_of_block (a := ⟨sb, j, none⟩) (heap_alloc_old w2 _ (cell_lt (HVm.out.1 j u hj)))).trans (HVm.out.1 j u hj)) HONEC.out HN2.out HN3.out ?_; intro g5 c5 w5 hown5 hb5; have HO5 := hidden hown5; have HB5 := hidden (Below.trans ((Below.refl w2.heap.size w2).alloc (Nat.le_refl _) _) hb5); have hs5 := HB5.out.size; clear hown5 hb5)
          | (refine app_one (b0 := w2.heap.size) (u := .slice (some ⟨bu, ou, none⟩) (s.size + 1) cu) rfl _ _ rfl rfl (World.ownsRow.alloc HO5.out _) rfl (heap_alloc_new w5 _) rfl HN3.out (by simp; omega) ?_; intro g6 c6 w6 hown6 hb6; have HO6 := hidden hown6; have HB6 := hidden (Below.trans (HB5.out.alloc hs5 _) hb6); clear hown6 hb6))
        have HS6 := hidden (StR.next HV2.out HVm.out.2 HN2.out HU.out HO6.out HB6.out)
        rw [tabs_take0 WD TK _ _ HNR.out, HTK1.out] at HS6
        go_wp2
        go_roundw
        case rel => exact ⟨k + 1, by have := HK1.out; omega, by have := HK1.out; go_num, HS6.out, below_after HBm.out HB6.out⟩
        case measure => have := HK1.out; simp [Go.RowKit.intOf]; omega
      | emp r he =>
        have hkind : sk.k = 2 := by rw [he]; rfl
        have HKc := hidden (fun (W : World) (hW : Below wr.heap.size wr W) => (show W.cell? ⟨b, off + k * 5, none⟩ = some (.int .i64 (2)) from by have := (HR.out W hW).1; rw [hkind] at this; exact this))
        have HOk := hidden (fun (W : World) => (show Calls Tryz.prog 78 #[.int .i64 (2)] W fun e w' => e = .returned (.int .i64 (0)) ∧ W = w' from HO.out (2) W))
        have c0 := HKc.out wr (Below.refl _ _)
        have hn' : K ≤ 1000 := by omega
        have HN2 := hidden (show K ≤ vals.length by omega)
        have HN3 := hidden hn'
        have HNR := hidden (show K = TK.length from v2)
        have HV2 := hidden (show vals.length = (tabs WD TK).length by rw [tabs_len, ← v2, hK])
        have hw0 : IntKind.i64.wrap (K : Int) = (K : Int) := by rw [IntKind.wrap_i64]; omega
        clear he hkind hK v2
        go_wp2_with fail
        refine (HOk.out _).mono ?_
        rintro e w1 ⟨rfl, rfl⟩
        go_wp2_with fail
        refine (HSAME.out _).mono ?_
        rintro e w1 ⟨x, rfl, hx, hb1⟩
        have HX := hidden hx
        have HB1 := hidden hb1
        obtain ⟨bx, ox, cx, rfl⟩ := hx.form
        have c1 := HKc.out w1 hb1
        have hbm := hb1
        have HU := hidden (hx.congr (by have := mat_emp WD; rw [HL1.out] at this; exact this))
        clear hx hb1
        have HBm := hidden (below_after HB.out hbm)
        have HBw := hidden hbm
        have HVm := hidden (HVB.out w1 hbm)
        have HONEC := hidden (fun u (hu : u ∈ vals) => (show u.oneCell' = true from by
          obtain ⟨j, hj⟩ := List.getElem?_of_mem hu
          obtain ⟨_, _, _, rfl⟩ := (HVm.out.2 j u hj).form
          rfl))
        clear hbm
        go_wp2_with (at_builtin; first
          | (refine app_copy (vals := vals) (b0 := w1.heap.size) rfl _ _ rfl rfl (heap_alloc_new w1 _) rfl (fun j u hj => (World.cell?_of_block (a := ⟨sb, j, none⟩) (heap_alloc_old w1 _ (cell_lt (HVm.out.1 j u hj)))).trans (HVm.out.1 j u hj)) HONEC.out HN2.out HN3.out ?_; intro g5 c5 w5 hown5 hb5; have HO5 := hidden hown5; have HB5 := hidden (Below.trans ((Below.refl w1.heap.size w1).alloc (Nat.le_refl _) _) hb5); have hs5 := HB5.out.size; clear hown5 hb5)
          | (refine app_one (b0 := w1.heap.size) (u := .slice (some ⟨bx, ox, none⟩) (s.size + 1) cx) rfl _ _ rfl rfl (World.ownsRow.alloc HO5.out _) rfl (heap_alloc_new w5 _) rfl HN3.out (by simp; omega) ?_; intro g6 c6 w6 hown6 hb6; have HO6 := hidden hown6; have HB6 := hidden (Below.trans (HB5.out.alloc hs5 _) hb6); clear hown6 hb6))
        have HS6 := hidden (StR.next HV2.out HVm.out.2 HN2.out HU.out HO6.out HB6.out)
        rw [tabs_take0 WD TK _ _ HNR.out, HTK1.out] at HS6
        go_wp2
        go_roundw
        case rel => exact ⟨k + 1, by have := HK1.out; omega, by have := HK1.out; go_num, HS6.out, below_after HBm.out HB6.out⟩
        case measure => have := HK1.out; simp [Go.RowKit.intOf]; omega
      | cat r x y he =>
        have hkind : sk.k = 3 := by rw [he]; rfl
        have HKc := hidden (fun (W : World) (hW : Below wr.heap.size wr W) => (show W.cell? ⟨b, off + k * 5, none⟩ = some (.int .i64 (3)) from by have := (HR.out W hW).1; rw [hkind] at this; exact this))
        have HOk := hidden (fun (W : World) => (show Calls Tryz.prog 78 #[.int .i64 (3)] W fun e w' => e = .returned (.int .i64 (2)) ∧ W = w' from HO.out (3) W))
        have c0 := HKc.out wr (Below.refl _ _)
        obtain ⟨n', hnr⟩ : ∃ n', n' = r.length := ⟨_, rfl⟩
        have hKn : K = n' + 2 := by rw [v2, hnr]; simp
        obtain ⟨n1, hn1⟩ : ∃ n1, n1 = n' + 1 := ⟨_, rfl⟩
        have hw1 : IntKind.i64.wrap ((K : Int) - 2) = (n' : Int) := by rw [IntKind.wrap_i64]; omega
        have hw2 : IntKind.i64.wrap ((n' : Int) + 1) = (n1 : Int) := by rw [IntKind.wrap_i64]; omega
        have hlt1 : n' < K := by omega
        have hlt2 : n1 < K := by omega
        have HN2 := hidden (show n' ≤ vals.length by omega)
        have HN3 := hidden (show n' ≤ 1000 by omega)
        have HNR := hidden hnr
        have HV2 := hidden (show vals.length = (tabs WD (r ++ [x, y])).length by rw [tabs_len, ← v2, hK])
        obtain ⟨ua, hua⟩ : ∃ u, vals[n']? = some u := ⟨vals[n']'(by omega), by simp⟩
        obtain ⟨ub, hub⟩ : ∃ u, vals[n1]? = some u := ⟨vals[n1]'(by omega), by simp⟩
        have HVC := hidden (fun (W : World) (hW : Below wr.heap.size wr W) => (show (W.cell? ⟨sb, n', none⟩ = some ua ∧ W.cell? ⟨sb, n1, none⟩ = some ub) ∧ MatR W ua (s.size + 1) (lgB x WD) ∧ MatR W ub (s.size + 1) (lgB y WD) from by
          have g1 := (HVB.out W hW).1
          have g2 := (HVB.out W hW).2 n' ua hua
          have g3 := (HVB.out W hW).2 n1 ub hub
          rw [tabs_at WD r [y] x n' hnr] at g2
          rw [show r ++ [x, y] = (r ++ [x]) ++ y :: [] by simp, tabs_at WD (r ++ [x]) [] y n1 (by simp; omega)] at g3
          exact ⟨⟨g1 n' ua hua, g1 n1 ub hub⟩, g2, g3⟩))
        obtain ⟨ba, oa, ca, rfl⟩ := ((HVC.out wr (Below.refl _ _)).2.1).form
        obtain ⟨bb, ob, cb, rfl⟩ := ((HVC.out wr (Below.refl _ _)).2.2).form
        clear he hkind hK hKn hn1 hnr hua hub v2
        go_wp2_with fail
        refine (HOk.out _).mono ?_
        rintro e w1 ⟨rfl, rfl⟩
        go_wp2_with fail
        refine (HSAME.out _).mono ?_
        rintro e w1 ⟨xx, rfl, hx, hb1⟩
        have HX := hidden hx
        have HB1 := hidden hb1
        obtain ⟨bx, ox, cx, rfl⟩ := hx.form
        have c1 := HKc.out w1 hb1
        obtain ⟨c2, c3⟩ := (HVC.out w1 hb1).1
        have HM1 := hidden (HVC.out w1 hb1).2
        have HM1d := hidden (show MatR w1.drew (.slice (some ⟨ba, oa, none⟩) (s.size + 1) ca) (s.size + 1) (lgB x WD) ∧ MatR w1.drew (.slice (some ⟨bb, ob, none⟩) (s.size + 1) cb) (s.size + 1) (lgB y WD) from HM1.out)
        clear hx hb1
        go_wp2
        go_region_with (go_at_call 85; refine (HBEH.out _ _ _ _ _ HM1d.out.1 HM1d.out.2).mono ?_; rintro e w2 ⟨u, rfl, hu, hb2⟩; have hbm := below_after (show Below wr.heap.size wr w1.drew from HB1.out.drew) hb2; have HU := hidden (hu.congr (by have := mat_cat x y WD; rw [HL1.out] at this; exact this)); obtain ⟨bu, ou, cu, rfl⟩ := hu.form; clear hu hb2)
        all_goals
          have HBm := hidden (below_after HB.out hbm)
          have HBw := hidden hbm
          have HVm := hidden (HVB.out w2 hbm)
          have HONEC := hidden (fun u (hu : u ∈ vals) => (show u.oneCell' = true from by
            obtain ⟨j, hj⟩ := List.getElem?_of_mem hu
            obtain ⟨_, _, _, rfl⟩ := (HVm.out.2 j u hj).form
            rfl))
          clear hbm
          go_wp2_with (at_builtin; first
            | (refine app_copy (vals := vals) (b0 := w2.heap.size) rfl _ _ rfl rfl (heap_alloc_new w2 _) rfl (fun j u hj => (World.cell?_of_block (a := ⟨sb, j, none⟩) (heap_alloc_old w2 _ (cell_lt (HVm.out.1 j u hj)))).trans (HVm.out.1 j u hj)) HONEC.out HN2.out HN3.out ?_; intro g5 c5 w5 hown5 hb5; have HO5 := hidden hown5; have HB5 := hidden (Below.trans ((Below.refl w2.heap.size w2).alloc (Nat.le_refl _) _) hb5); have hs5 := HB5.out.size; clear hown5 hb5)
            | (refine app_one (b0 := w2.heap.size) (u := .slice (some ⟨bu, ou, none⟩) (s.size + 1) cu) rfl _ _ rfl rfl (World.ownsRow.alloc HO5.out _) rfl (heap_alloc_new w5 _) rfl HN3.out (by simp; omega) ?_; intro g6 c6 w6 hown6 hb6; have HO6 := hidden hown6; have HB6 := hidden (Below.trans (HB5.out.alloc hs5 _) hb6); clear hown6 hb6))
          have HS6 := hidden (StR.next HV2.out HVm.out.2 HN2.out HU.out HO6.out HB6.out)
          rw [tabs_take WD r [x, y] _ _ HNR.out, HTK1.out] at HS6
          go_wp2
          go_roundw
          case rel => exact ⟨k + 1, by have := HK1.out; omega, by have := HK1.out; go_num, HS6.out, below_after HBm.out HB6.out⟩
          case measure => have := HK1.out; simp [Go.RowKit.intOf]; omega
      | alt r x y he =>
        have hkind : sk.k = 4 := by rw [he]; rfl
        have HKc := hidden (fun (W : World) (hW : Below wr.heap.size wr W) => (show W.cell? ⟨b, off + k * 5, none⟩ = some (.int .i64 (4)) from by have := (HR.out W hW).1; rw [hkind] at this; exact this))
        have HOk := hidden (fun (W : World) => (show Calls Tryz.prog 78 #[.int .i64 (4)] W fun e w' => e = .returned (.int .i64 (2)) ∧ W = w' from HO.out (4) W))
        have c0 := HKc.out wr (Below.refl _ _)
        obtain ⟨n', hnr⟩ : ∃ n', n' = r.length := ⟨_, rfl⟩
        have hKn : K = n' + 2 := by rw [v2, hnr]; simp
        obtain ⟨n1, hn1⟩ : ∃ n1, n1 = n' + 1 := ⟨_, rfl⟩
        have hw1 : IntKind.i64.wrap ((K : Int) - 2) = (n' : Int) := by rw [IntKind.wrap_i64]; omega
        have hw2 : IntKind.i64.wrap ((n' : Int) + 1) = (n1 : Int) := by rw [IntKind.wrap_i64]; omega
        have hlt1 : n' < K := by omega
        have hlt2 : n1 < K := by omega
        have HN2 := hidden (show n' ≤ vals.length by omega)
        have HN3 := hidden (show n' ≤ 1000 by omega)
        have HNR := hidden hnr
        have HV2 := hidden (show vals.length = (tabs WD (r ++ [x, y])).length by rw [tabs_len, ← v2, hK])
        obtain ⟨ua, hua⟩ : ∃ u, vals[n']? = some u := ⟨vals[n']'(by omega), by simp⟩
        obtain ⟨ub, hub⟩ : ∃ u, vals[n1]? = some u := ⟨vals[n1]'(by omega), by simp⟩
        have HVC := hidden (fun (W : World) (hW : Below wr.heap.size wr W) => (show (W.cell? ⟨sb, n', none⟩ = some ua ∧ W.cell? ⟨sb, n1, none⟩ = some ub) ∧ MatR W ua (s.size + 1) (lgB x WD) ∧ MatR W ub (s.size + 1) (lgB y WD) from by
          have g1 := (HVB.out W hW).1
          have g2 := (HVB.out W hW).2 n' ua hua
          have g3 := (HVB.out W hW).2 n1 ub hub
          rw [tabs_at WD r [y] x n' hnr] at g2
          rw [show r ++ [x, y] = (r ++ [x]) ++ y :: [] by simp, tabs_at WD (r ++ [x]) [] y n1 (by simp; omega)] at g3
          exact ⟨⟨g1 n' ua hua, g1 n1 ub hub⟩, g2, g3⟩))
        obtain ⟨ba, oa, ca, rfl⟩ := ((HVC.out wr (Below.refl _ _)).2.1).form
        obtain ⟨bb, ob, cb, rfl⟩ := ((HVC.out wr (Below.refl _ _)).2.2).form
        clear he hkind hK hKn hn1 hnr hua hub v2
        go_wp2_with fail
        refine (HOk.out _).mono ?_
        rintro e w1 ⟨rfl, rfl⟩
        go_wp2_with fail
        refine (HSAME.out _).mono ?_
        rintro e w1 ⟨xx, rfl, hx, hb1⟩
        have HX := hidden hx
        have HB1 := hidden hb1
        obtain ⟨bx, ox, cx, rfl⟩ := hx.form
        have c1 := HKc.out w1 hb1
        obtain ⟨c2, c3⟩ := (HVC.out w1 hb1).1
        have HM1 := hidden (HVC.out w1 hb1).2
        have HM1d := hidden (show MatR w1.drew (.slice (some ⟨ba, oa, none⟩) (s.size + 1) ca) (s.size + 1) (lgB x WD) ∧ MatR w1.drew (.slice (some ⟨bb, ob, none⟩) (s.size + 1) cb) (s.size + 1) (lgB y WD) from HM1.out)
        clear hx hb1
        go_wp2
        go_region_with (go_at_call 86; refine (HBOTH.out _ _ _ _ _ HM1d.out.1 HM1d.out.2).mono ?_; rintro e w2 ⟨u, rfl, hu, hb2⟩; have hbm := below_after (show Below wr.heap.size wr w1.drew from HB1.out.drew) hb2; have HU := hidden (hu.congr (by have := mat_alt x y WD; rw [HL1.out] at this; exact this)); obtain ⟨bu, ou, cu, rfl⟩ := hu.form; clear hu hb2)
        all_goals
          have HBm := hidden (below_after HB.out hbm)
          have HBw := hidden hbm
          have HVm := hidden (HVB.out w2 hbm)
          have HONEC := hidden (fun u (hu : u ∈ vals) => (show u.oneCell' = true from by
            obtain ⟨j, hj⟩ := List.getElem?_of_mem hu
            obtain ⟨_, _, _, rfl⟩ := (HVm.out.2 j u hj).form
            rfl))
          clear hbm
          go_wp2_with (at_builtin; first
            | (refine app_copy (vals := vals) (b0 := w2.heap.size) rfl _ _ rfl rfl (heap_alloc_new w2 _) rfl (fun j u hj => (World.cell?_of_block (a := ⟨sb, j, none⟩) (heap_alloc_old w2 _ (cell_lt (HVm.out.1 j u hj)))).trans (HVm.out.1 j u hj)) HONEC.out HN2.out HN3.out ?_; intro g5 c5 w5 hown5 hb5; have HO5 := hidden hown5; have HB5 := hidden (Below.trans ((Below.refl w2.heap.size w2).alloc (Nat.le_refl _) _) hb5); have hs5 := HB5.out.size; clear hown5 hb5)
            | (refine app_one (b0 := w2.heap.size) (u := .slice (some ⟨bu, ou, none⟩) (s.size + 1) cu) rfl _ _ rfl rfl (World.ownsRow.alloc HO5.out _) rfl (heap_alloc_new w5 _) rfl HN3.out (by simp; omega) ?_; intro g6 c6 w6 hown6 hb6; have HO6 := hidden hown6; have HB6 := hidden (Below.trans (HB5.out.alloc hs5 _) hb6); clear hown6 hb6))
          have HS6 := hidden (StR.next HV2.out HVm.out.2 HN2.out HU.out HO6.out HB6.out)
          rw [tabs_take WD r [x, y] _ _ HNR.out, HTK1.out] at HS6
          go_wp2
          go_roundw
          case rel => exact ⟨k + 1, by have := HK1.out; omega, by have := HK1.out; go_num, HS6.out, below_after HBm.out HB6.out⟩
          case measure => have := HK1.out; simp [Go.RowKit.intOf]; omega
      | un r x he h =>
        rcases h with hk5 | hk6 | hk7
        · have hkind : sk.k = 5 := hk5
          rw [hkind] at HTK1
          have HKc := hidden (fun (W : World) (hW : Below wr.heap.size wr W) => (show W.cell? ⟨b, off + k * 5, none⟩ = some (.int .i64 (5)) from by have := (HR.out W hW).1; rw [hkind] at this; exact this))
          have HOk := hidden (fun (W : World) => (show Calls Tryz.prog 78 #[.int .i64 (5)] W fun e w' => e = .returned (.int .i64 (1)) ∧ W = w' from HO.out (5) W))
          have c0 := HKc.out wr (Below.refl _ _)
          obtain ⟨n', hnr⟩ : ∃ n', n' = r.length := ⟨_, rfl⟩
          have hKn : K = n' + 1 := by rw [v2, hnr]; simp
          have hw1 : IntKind.i64.wrap ((K : Int) - 1) = (n' : Int) := by rw [IntKind.wrap_i64]; omega
          have hlt1 : n' < K := by omega
          have HN2 := hidden (show n' ≤ vals.length by omega)
          have HN3 := hidden (show n' ≤ 1000 by omega)
          have HNR := hidden hnr
          have HV2 := hidden (show vals.length = (tabs WD (r ++ [x])).length by rw [tabs_len, ← v2, hK])
          obtain ⟨ua, hua⟩ : ∃ u, vals[n']? = some u := ⟨vals[n']'(by omega), by simp⟩
          have HVC := hidden (fun (W : World) (hW : Below wr.heap.size wr W) => (show W.cell? ⟨sb, n', none⟩ = some ua ∧ MatR W ua (s.size + 1) (lgB x WD) from by
            have g1 := (HVB.out W hW).1
            have g2 := (HVB.out W hW).2 n' ua hua
            rw [tabs_at WD r [] x n' hnr] at g2
            exact ⟨g1 n' ua hua, g2⟩))
          obtain ⟨ba, oa, ca, rfl⟩ := ((HVC.out wr (Below.refl _ _)).2).form
          clear he hkind hK hKn hnr hua v2 hk5
          go_wp2_with fail
          refine (HOk.out _).mono ?_
          rintro e w1 ⟨rfl, rfl⟩
          go_wp2_with fail
          refine (HSAME.out _).mono ?_
          rintro e w1 ⟨xx, rfl, hx, hb1⟩
          have HX := hidden hx
          have HB1 := hidden hb1
          obtain ⟨bx, ox, cx, rfl⟩ := hx.form
          have c1 := HKc.out w1 hb1
          obtain ⟨c2, hm1⟩ := HVC.out w1 hb1
          have HM1 := hidden hm1
          clear hx hb1 hm1
          go_wp2_with fail
          refine (HAG.out _ _ _ HM1.out).mono ?_
          rintro e w2 ⟨t, ht, ug, rfl, hug, hb2⟩
          have HT := hidden ht
          have HUG := hidden hug
          have HX2 := hidden (HX.out.below hb2)
          have HB2 := hidden (below_after HB1.out hb2)
          obtain ⟨bg, og, cg, rfl⟩ := hug.form
          clear hug hb2 ht
          go_wp2_with fail
          refine (HBOTH.out _ _ _ _ _ HX2.out HUG.out).mono ?_
          rintro e w3 ⟨u, rfl, hu, hb3⟩
          have hbm := below_after HB2.out hb3
          have HU := hidden (hu.congr (by have := mat_star x (W := WD) (t := t) (by rw [HL1.out]; exact HT.out); rw [HL1.out] at this; exact this))
          obtain ⟨bu, ou, cu, rfl⟩ := hu.form
          clear hu hb3
          have HBm := hidden (below_after HB.out hbm)
          have HBw := hidden hbm
          have HVm := hidden (HVB.out w3 hbm)
          have HONEC := hidden (fun u (hu : u ∈ vals) => (show u.oneCell' = true from by
            obtain ⟨j, hj⟩ := List.getElem?_of_mem hu
            obtain ⟨_, _, _, rfl⟩ := (HVm.out.2 j u hj).form
            rfl))
          clear hbm
          go_wp2_with (at_builtin; first
            | (refine app_copy (vals := vals) (b0 := w3.heap.size) rfl _ _ rfl rfl (heap_alloc_new w3 _) rfl (fun j u hj => (World.cell?_of_block (a := ⟨sb, j, none⟩) (heap_alloc_old w3 _ (cell_lt (HVm.out.1 j u hj)))).trans (HVm.out.1 j u hj)) HONEC.out HN2.out HN3.out ?_; intro g5 c5 w5 hown5 hb5; have HO5 := hidden hown5; have HB5 := hidden (Below.trans ((Below.refl w3.heap.size w3).alloc (Nat.le_refl _) _) hb5); have hs5 := HB5.out.size; clear hown5 hb5)
            | (refine app_one (b0 := w3.heap.size) (u := .slice (some ⟨bu, ou, none⟩) (s.size + 1) cu) rfl _ _ rfl rfl (World.ownsRow.alloc HO5.out _) rfl (heap_alloc_new w5 _) rfl HN3.out (by simp; omega) ?_; intro g6 c6 w6 hown6 hb6; have HO6 := hidden hown6; have HB6 := hidden (Below.trans (HB5.out.alloc hs5 _) hb6); clear hown6 hb6))
          have HS6 := hidden (StR.next HV2.out HVm.out.2 HN2.out HU.out HO6.out HB6.out)
          rw [tabs_take WD r [x] _ _ HNR.out, HTK1.out] at HS6
          go_wp2
          go_roundw
          case rel => exact ⟨k + 1, by have := HK1.out; omega, by have := HK1.out; go_num, HS6.out, below_after HBm.out HB6.out⟩
          case measure => have := HK1.out; simp [Go.RowKit.intOf]; omega
        · have hkind : sk.k = 6 := hk6
          rw [hkind] at HTK1
          have HKc := hidden (fun (W : World) (hW : Below wr.heap.size wr W) => (show W.cell? ⟨b, off + k * 5, none⟩ = some (.int .i64 (6)) from by have := (HR.out W hW).1; rw [hkind] at this; exact this))
          have HOk := hidden (fun (W : World) => (show Calls Tryz.prog 78 #[.int .i64 (6)] W fun e w' => e = .returned (.int .i64 (1)) ∧ W = w' from HO.out (6) W))
          have c0 := HKc.out wr (Below.refl _ _)
          obtain ⟨n', hnr⟩ : ∃ n', n' = r.length := ⟨_, rfl⟩
          have hKn : K = n' + 1 := by rw [v2, hnr]; simp
          have hw1 : IntKind.i64.wrap ((K : Int) - 1) = (n' : Int) := by rw [IntKind.wrap_i64]; omega
          have hlt1 : n' < K := by omega
          have HN2 := hidden (show n' ≤ vals.length by omega)
          have HN3 := hidden (show n' ≤ 1000 by omega)
          have HNR := hidden hnr
          have HV2 := hidden (show vals.length = (tabs WD (r ++ [x])).length by rw [tabs_len, ← v2, hK])
          obtain ⟨ua, hua⟩ : ∃ u, vals[n']? = some u := ⟨vals[n']'(by omega), by simp⟩
          have HVC := hidden (fun (W : World) (hW : Below wr.heap.size wr W) => (show W.cell? ⟨sb, n', none⟩ = some ua ∧ MatR W ua (s.size + 1) (lgB x WD) from by
            have g1 := (HVB.out W hW).1
            have g2 := (HVB.out W hW).2 n' ua hua
            rw [tabs_at WD r [] x n' hnr] at g2
            exact ⟨g1 n' ua hua, g2⟩))
          obtain ⟨ba, oa, ca, rfl⟩ := ((HVC.out wr (Below.refl _ _)).2).form
          clear he hkind hK hKn hnr hua v2 hk6
          go_wp2_with fail
          refine (HOk.out _).mono ?_
          rintro e w1 ⟨rfl, rfl⟩
          go_wp2_with fail
          refine (HSAME.out _).mono ?_
          rintro e w1 ⟨xx, rfl, hx, hb1⟩
          have HX := hidden hx
          have HB1 := hidden hb1
          obtain ⟨bx, ox, cx, rfl⟩ := hx.form
          have c1 := HKc.out w1 hb1
          obtain ⟨c2, hm1⟩ := HVC.out w1 hb1
          have HM1 := hidden hm1
          clear hx hb1 hm1
          go_wp2_with fail
          refine (HAG.out _ _ _ HM1.out).mono ?_
          rintro e w2 ⟨t, ht, u, rfl, hu, hb2⟩
          have hbm := below_after HB1.out hb2
          have HU := hidden (hu.congr (by have := mat_plus x (W := WD) (t := t) (by rw [HL1.out]; exact ht); rw [HL1.out] at this; exact this))
          obtain ⟨bu, ou, cu, rfl⟩ := hu.form
          clear hu hb2 ht
          have HBm := hidden (below_after HB.out hbm)
          have HBw := hidden hbm
          have HVm := hidden (HVB.out w2 hbm)
          have HONEC := hidden (fun u (hu : u ∈ vals) => (show u.oneCell' = true from by
            obtain ⟨j, hj⟩ := List.getElem?_of_mem hu
            obtain ⟨_, _, _, rfl⟩ := (HVm.out.2 j u hj).form
            rfl))
          clear hbm
          go_wp2_with (at_builtin; first
            | (refine app_copy (vals := vals) (b0 := w2.heap.size) rfl _ _ rfl rfl (heap_alloc_new w2 _) rfl (fun j u hj => (World.cell?_of_block (a := ⟨sb, j, none⟩) (heap_alloc_old w2 _ (cell_lt (HVm.out.1 j u hj)))).trans (HVm.out.1 j u hj)) HONEC.out HN2.out HN3.out ?_; intro g5 c5 w5 hown5 hb5; have HO5 := hidden hown5; have HB5 := hidden (Below.trans ((Below.refl w2.heap.size w2).alloc (Nat.le_refl _) _) hb5); have hs5 := HB5.out.size; clear hown5 hb5)
            | (refine app_one (b0 := w2.heap.size) (u := .slice (some ⟨bu, ou, none⟩) (s.size + 1) cu) rfl _ _ rfl rfl (World.ownsRow.alloc HO5.out _) rfl (heap_alloc_new w5 _) rfl HN3.out (by simp; omega) ?_; intro g6 c6 w6 hown6 hb6; have HO6 := hidden hown6; have HB6 := hidden (Below.trans (HB5.out.alloc hs5 _) hb6); clear hown6 hb6))
          have HS6 := hidden (StR.next HV2.out HVm.out.2 HN2.out HU.out HO6.out HB6.out)
          rw [tabs_take WD r [x] _ _ HNR.out, HTK1.out] at HS6
          go_wp2
          go_roundw
          case rel => exact ⟨k + 1, by have := HK1.out; omega, by have := HK1.out; go_num, HS6.out, below_after HBm.out HB6.out⟩
          case measure => have := HK1.out; simp [Go.RowKit.intOf]; omega
        · have hkind : sk.k = 7 := hk7
          rw [hkind] at HTK1
          have HKc := hidden (fun (W : World) (hW : Below wr.heap.size wr W) => (show W.cell? ⟨b, off + k * 5, none⟩ = some (.int .i64 (7)) from by have := (HR.out W hW).1; rw [hkind] at this; exact this))
          have HOk := hidden (fun (W : World) => (show Calls Tryz.prog 78 #[.int .i64 (7)] W fun e w' => e = .returned (.int .i64 (1)) ∧ W = w' from HO.out (7) W))
          have c0 := HKc.out wr (Below.refl _ _)
          obtain ⟨n', hnr⟩ : ∃ n', n' = r.length := ⟨_, rfl⟩
          have hKn : K = n' + 1 := by rw [v2, hnr]; simp
          have hw1 : IntKind.i64.wrap ((K : Int) - 1) = (n' : Int) := by rw [IntKind.wrap_i64]; omega
          have hlt1 : n' < K := by omega
          have HN2 := hidden (show n' ≤ vals.length by omega)
          have HN3 := hidden (show n' ≤ 1000 by omega)
          have HNR := hidden hnr
          have HV2 := hidden (show vals.length = (tabs WD (r ++ [x])).length by rw [tabs_len, ← v2, hK])
          obtain ⟨ua, hua⟩ : ∃ u, vals[n']? = some u := ⟨vals[n']'(by omega), by simp⟩
          have HVC := hidden (fun (W : World) (hW : Below wr.heap.size wr W) => (show W.cell? ⟨sb, n', none⟩ = some ua ∧ MatR W ua (s.size + 1) (lgB x WD) from by
            have g1 := (HVB.out W hW).1
            have g2 := (HVB.out W hW).2 n' ua hua
            rw [tabs_at WD r [] x n' hnr] at g2
            exact ⟨g1 n' ua hua, g2⟩))
          obtain ⟨ba, oa, ca, rfl⟩ := ((HVC.out wr (Below.refl _ _)).2).form
          clear he hkind hK hKn hnr hua v2 hk7
          go_wp2_with fail
          refine (HOk.out _).mono ?_
          rintro e w1 ⟨rfl, rfl⟩
          go_wp2_with fail
          refine (HSAME.out _).mono ?_
          rintro e w1 ⟨xx, rfl, hx, hb1⟩
          have HX := hidden hx
          have HB1 := hidden hb1
          obtain ⟨bx, ox, cx, rfl⟩ := hx.form
          have c1 := HKc.out w1 hb1
          obtain ⟨c2, hm1⟩ := HVC.out w1 hb1
          have HM1 := hidden hm1
          clear hx hb1 hm1
          go_wp2_with fail
          refine (HBOTH.out _ _ _ _ _ HX.out HM1.out).mono ?_
          rintro e w2 ⟨u, rfl, hu, hb2⟩
          have hbm := below_after HB1.out hb2
          have HU := hidden (hu.congr (by have := mat_opt x WD; rw [HL1.out] at this; exact this))
          obtain ⟨bu, ou, cu, rfl⟩ := hu.form
          clear hu hb2
          have HBm := hidden (below_after HB.out hbm)
          have HBw := hidden hbm
          have HVm := hidden (HVB.out w2 hbm)
          have HONEC := hidden (fun u (hu : u ∈ vals) => (show u.oneCell' = true from by
            obtain ⟨j, hj⟩ := List.getElem?_of_mem hu
            obtain ⟨_, _, _, rfl⟩ := (HVm.out.2 j u hj).form
            rfl))
          clear hbm
          go_wp2_with (at_builtin; first
            | (refine app_copy (vals := vals) (b0 := w2.heap.size) rfl _ _ rfl rfl (heap_alloc_new w2 _) rfl (fun j u hj => (World.cell?_of_block (a := ⟨sb, j, none⟩) (heap_alloc_old w2 _ (cell_lt (HVm.out.1 j u hj)))).trans (HVm.out.1 j u hj)) HONEC.out HN2.out HN3.out ?_; intro g5 c5 w5 hown5 hb5; have HO5 := hidden hown5; have HB5 := hidden (Below.trans ((Below.refl w2.heap.size w2).alloc (Nat.le_refl _) _) hb5); have hs5 := HB5.out.size; clear hown5 hb5)
            | (refine app_one (b0 := w2.heap.size) (u := .slice (some ⟨bu, ou, none⟩) (s.size + 1) cu) rfl _ _ rfl rfl (World.ownsRow.alloc HO5.out _) rfl (heap_alloc_new w5 _) rfl HN3.out (by simp; omega) ?_; intro g6 c6 w6 hown6 hb6; have HO6 := hidden hown6; have HB6 := hidden (Below.trans (HB5.out.alloc hs5 _) hb6); clear hown6 hb6))
          have HS6 := hidden (StR.next HV2.out HVm.out.2 HN2.out HU.out HO6.out HB6.out)
          rw [tabs_take WD r [x] _ _ HNR.out, HTK1.out] at HS6
          go_wp2
          go_roundw
          case rel => exact ⟨k + 1, by have := HK1.out; omega, by have := HK1.out; go_num, HS6.out, below_after HBm.out HB6.out⟩
          case measure => have := HK1.out; simp [Go.RowKit.intOf]; omega
    · obtain rfl : k = n := by omega
      have HE := hidden HONE.out
      obtain ⟨u, hu⟩ : ∃ u, vals[0]? = some u := by
        have : 0 < vals.length := by rw [v2, tabs_len, HONE.out]; simp
        exact ⟨vals[0]'this, by simp⟩
      have hm := HV.out.2.2 0 u hu
      rw [HONE.out] at hm
      have c0 := HV.out.2.1 0 u hu
      have hlen : vals.length = 1 := by rw [v2, tabs_len, HONE.out]; rfl
      have HM := hidden hm
      obtain ⟨bu, ou, cu, rfl⟩ := hm.form
      have hpos' : 0 < vals.length := by omega
      clear hm hu hlen v2
      go_wp2
      go_ret
      exact ⟨_, rfl, HM.out, HB.out⟩
end Go.Proofs.YtmpjjnjggihojaaGreatDoor

/- Contracts of the reference's Ends, Says and SameInts. -/
namespace Go.Proofs.YtmpjjnjggihojaaGreatDoor
open Go.RowKit Go.Lib Go.Joins

def intV (n : Nat) : Value := .int .i64 n
/-- slice value v owns these numbers -/
def RowI (w : World) (base : Nat) (v : Value) (l : List Nat) : Prop := w.ownsRow base 3 1 v l.length (l.map intV)
theorem RowI.nil (w : World) (base : Nat) : RowI w base (.slice none 0 0) [] := World.ownsRow_nil _ _ _ _
theorem RowI.lit (w : World) (b : Nat) (hb : b = w.heap.size) (cur : Array Value) (hc : cur = #[]) : RowI (w.alloc (.cells cur 3)) w.heap.size (.slice (some ⟨b, 0, none⟩) 0 0) [] := by
  subst hb hc
  exact World.ownsRow_lit (e := 3) (size := 1) w #[] 0 (Nat.le_refl _) (by decide) rfl
theorem RowI.kept {w w' : World} {base : Nat} {v : Value} {l : List Nat} (h : RowI w base v l) (hb : Below w.heap.size w w') : RowI w' base v l :=
  World.ownsRow.kept (row := none) h ⟨hb.os, hb.tape, hb.output, hb.size, fun k hk _ => hb.block k hk⟩ (by cases v.ownBlock <;> simp)
theorem RowI.lower {w : World} {base base' : Nat} {v : Value} {l : List Nat} (h : RowI w base v l) (hb : base' ≤ base) : RowI w base' v l := ownsRow_le h hb
def RetI (w : World) (l : List Nat) (e : Ending) (w' : World) : Prop := ∃ v, e = .returned v ∧ RowI w' w.heap.size v l ∧ Below w.heap.size w w'
/-- an append of one number -/
theorem app_int {w : World} {ops : Array Oper} {rest : List Oper} {o : Oper} {a : Act} {Q : Exit → Act → World → Prop} (hgd : o.guard = none) (s x : Operand)
    (ho : o.op = .call { callee := .builtin .append, args := #[s, x], argTypes := #[23, 23] }) {base xb n : Nat} {v : Value} {l : List Nat}
    (hs : a.eval s = v) (hown : RowI w base v l) (hx : a.eval x = .slice (some ⟨xb, 0, none⟩) 1 1) (hxb : w.heap[xb]? = some (.cells #[.int .i64 (n : Int)] 3)) (hn2 : l.length ≤ 100000) (hb0 : base ≤ w.heap.size)
    (h : ∀ g' c' w', RowI w' base (.slice (some ⟨g', 0, none⟩) (l.length + 1) c') (l ++ [n]) → w.grownBy w' v.ownBlock → Below base w w' → wpList Tryz.prog ops Q rest (a.put o.dst (.slice (some ⟨g', 0, none⟩) (l.length + 1) c')) w') : wpList Tryz.prog ops Q (o :: rest) a w := by
  obtain ⟨i0, hi, hz0, hz1, hz2⟩ := info_parts infoInt
  refine wpList_append_own w hgd s x 23 ho base 3 i0 _ 1 8 Tryz.underlying23 hi hz0 hz1 hz2 rfl (by decide) _ l.length (l.map intV) hs hown ⟨xb, 0, none⟩ 1 1 [intV n] hx rfl (fun j x hj => ?_) (fun x hx => by simp at hx; subst hx; rfl) (by unfold maxLen; omega) (by omega) hb0 fun v' w' h3 h4 _ => ?_
  · match j, hj with
    | 0, hj =>
      simp only [List.getElem?_cons_zero, Option.some.injEq] at hj
      subst hj
      rw [Addr.add_lit, cell_of_row w xb _ _ _ _ hxb]
      rfl
  · have hb : Below base w w' := (Below.refl base w).grown h4 hb0 fun k e => (hown.lt k e).1
    rcases ownsRow_forms h3 with ⟨_, h0⟩ | ⟨g, c, rfl⟩
    · omega
    · exact h g c w' (by unfold RowI; simpa using h3) h4 hb

open Classical in
noncomputable def endsV (L : List Stp) (W : List Nat) (a : Int) : List Nat := if (measV L).2 = 0 ∧ 0 ≤ a ∧ a ≤ W.length then (List.range (W.length + 1)).filter (lgB (treeE L) W a.toNat) else []
theorem endsV_yes {L : List Stp} {W : List Nat} {a : Nat} (h : (measV L).2 = 0) (ha : a ≤ W.length) : endsV L W a = (List.range (W.length + 1)).filter (lgB (treeE L) W a) := by
  unfold endsV
  rw [if_pos ⟨h, by omega, by omega⟩, Int.toNat_natCast]
theorem endsV_no {L : List Stp} {W : List Nat} {a : Int} (h : (measV L).2 ≠ 0 ∨ a < 0 ∨ (W.length : Int) < a) : endsV L W a = [] := by
  unfold endsV
  rw [if_neg (by omega)]
theorem filter_more (p : Nat → Bool) (k : Nat) : (List.range (k + 1)).filter p = (List.range k).filter p ++ (if p k = true then [k] else []) := by
  rw [List.range_succ, List.filter_append]
  cases h : p k <;> simp [h]
theorem filter_len (p : Nat → Bool) (k : Nat) : ((List.range k).filter p).length ≤ k := by
  have := List.length_filter_le p (List.range k)
  simpa using this
set_option maxHeartbeats 8000000 in
set_option maxRecDepth 100000 in
theorem rends_calls {C : Nat → Prop} {v0 : Value} {L : List Stp} {w : World} (h : SlX C w v0 L) (hC : ∀ b, C b → b < w.heap.size) (s : ByteArray) (hs : s.size ≤ 1000) (hwd : ∀ s ∈ L, s.wide) (a : Int) :
    Calls Tryz.prog 48 #[v0, .string s, .int .i64 a] w (RetI w (endsV L (byN s) a)) := by
  have H := hidden h
  have hck := hidden (fun W (hb : Below w.heap.size w W) => rcheck_slX (h.below (C' := fun b => b < W.heap.size) fun b hb' => ⟨Nat.lt_of_lt_of_le (hC b hb') hb.size, hb.block b (hC b hb')⟩))
  have hb1 : Below w.heap.size w (w.alloc (.cells #[] 3)) := (Below.refl _ _).alloc (Nat.le_refl _) _
  have HCK := hidden (hck.out _ hb1)
  have HB1 := hidden hb1
  have HR0 := hidden (RowI.lit w _ rfl _ rfl)
  by_cases hz : (measV L).2 = 0
  · by_cases ha : a < 0
    · have HE := hidden (endsV_no (L := L) (W := byN s) (a := a) (.inr (.inl ha)))
      rw [hz] at HCK
      obtain ⟨av, cv, rfl, _⟩ := h
      have hd : decide (a < 0) = true := decide_eq_true ha
      clear hck hb1 H hz
      go_enter Tryz.func48, Tryz.ntmps48
      go_wp2_with fail
      refine HCK.out.mono ?_
      rintro e w1 ⟨rfl, rfl⟩
      go_wp2
      go_ret
      exact ⟨_, rfl, by rw [HE.out]; exact HR0.out, HB1.out⟩
    · obtain ⟨k, rfl⟩ : ∃ k : Nat, a = k := ⟨a.toNat, by omega⟩
      by_cases hk : k ≤ s.size
      · have HE := hidden (endsV_yes (L := L) (W := byN s) (a := k) hz (by rw [byN_len]; exact hk))
        rw [byN_len] at HE
        have HLD := hidden (leads_calls (h.below (C' := fun b => b < (w.alloc (.cells #[] 3)).heap.size) (w' := w.alloc (.cells #[] 3)) fun b hb' => ⟨Nat.lt_of_lt_of_le (hC b hb') hb1.size, hb1.block b (hC b hb')⟩) (fun b hb => hb) s hs hz hwd)
        rw [hz] at HCK
        obtain ⟨av, cv, rfl, _⟩ := h
        generalize lgB (treeE L) (byN s) = M at *
        obtain ⟨N, hN⟩ : ∃ N, N = s.size + 1 := ⟨_, rfl⟩
        rw [← hN] at HE HLD
        have hkN : k < N := by omega
        have hNle : N ≤ 1001 := by omega
        have hd : decide ((k : Int) < 0) = false := decide_eq_false (by omega)
        have hd1 : decide ((s.size : Int) < k) = false := decide_eq_false (by omega)
        have hd2 : decide (s.size < k) = false := decide_eq_false (by omega)
        clear hck hb1 H hz hN ha
        go_enter Tryz.func48, Tryz.ntmps48
        go_wp2_with fail
        refine HCK.out.mono ?_
        rintro e w1 ⟨rfl, rfl⟩
        go_wp2_with fail
        refine HLD.out.mono ?_
        rintro e w2 ⟨u, rfl, hu, hb2⟩
        have HM := hidden hu
        have HR2 := hidden (HR0.out.kept hb2)
        have HB2 := hidden (below_after HB1.out hb2)
        obtain ⟨bu, ou, cu, rfl, hc⟩ := hu
        obtain ⟨c, o, cp, c1, hcq, hct⟩ := hc k hkN
        have HQ := hidden hcq
        have HT := hidden hct
        clear hcq hct
        clear hc hb2
        go_wp2
        go_loopw [7, 9] (fun v i wr => ∃ p : Nat, p ≤ N ∧ i = .int .i64 p ∧ RowI wr w.heap.size v ((List.range p).filter (M k)) ∧ Below w.heap.size w wr ∧ wr.heap[c]? = w2.heap[c]?) (fun _ i _ => N - (Go.RowKit.intOf i).toNat)
        case atStart => exact ⟨0, by omega, rfl, HR2.out, HB2.out, rfl⟩
        case round =>
          obtain ⟨p, hp, rfl, hr, hb, hbc⟩ := hrel
          have HR := hidden hr
          have HB := hidden hb
          have HBC := hidden hbc
          have hfl := filter_len (M k) p
          have HF := hidden (filter_more (M k) p)
          clear hr hb
          by_cases hlt : p < N
          · have c2 : wr.cell? ⟨c, o + p, none⟩ = some (.bool (M k p)) := (World.cell?_of_block (a := ⟨c, o + p, none⟩) hbc).trans (HQ.out p hlt)
            clear hbc
            obtain ⟨x, hx⟩ : ∃ x, x = M k p := ⟨_, rfl⟩
            rw [← hx] at c2 HF
            cases x
            · have HF2 := hidden (show (List.range (p + 1)).filter (M k) = (List.range p).filter (M k) by rw [HF.out]; simp)
              clear hx HF
              go_wp2
              go_roundw
              case rel => exact ⟨p + 1, by omega, by go_num, by rw [HF2.out]; exact HR.out, HB.out, HBC.out⟩
              case measure => simp [Go.RowKit.intOf]; omega
            · have HF2 := hidden (show (List.range (p + 1)).filter (M k) = (List.range p).filter (M k) ++ [p] by rw [HF.out]; simp)
              clear hx HF
              have HRA := hidden (World.ownsRow.alloc HR.out (.cells #[.int .i64 (p : Int)] 3))
              have HBA := hidden (HB.out.alloc HB.out.size (.cells #[.int .i64 (p : Int)] 3))
              have hsz := HBA.out.size
              have HCA := hidden (show (wr.alloc (.cells #[.int .i64 (p : Int)] 3)).heap[c]? = w2.heap[c]? from by
                obtain ⟨cs, fz, h⟩ := HT.out
                exact (heap_alloc_old wr _ (Array.getElem?_eq_some_iff.1 (HBC.out.trans h)).1).trans HBC.out)
              have HCN := hidden (fun (v : Value) (hv : RowI (wr.alloc (.cells #[.int .i64 (p : Int)] 3)) w.heap.size v ((List.range p).filter (M k))) => (show some c ≠ v.ownBlock from fun e => by
                obtain ⟨cs, fz, h⟩ := HT.out
                rcases hv.2 with ⟨rfl, _⟩ | ⟨g, cap', cur, rfl, _, hg, _⟩
                · simp [Value.ownBlock] at e
                · simp only [Value.ownBlock, Option.some.injEq] at e
                  subst e
                  rw [HCA.out, h] at hg
                  simp at hg))
              have hfl2 : ((List.range p).filter (M k)).length ≤ 100000 := by omega
              generalize (List.range p).filter (M k) = l at *
              go_wp2_with (at_builtin; refine app_int rfl _ _ rfl (base := w.heap.size) (n := p) (l := l) rfl HRA.out rfl (heap_alloc_new wr _) hfl2 hsz ?_; intro g' c' w5 h5 g5 b5; have H5 := hidden h5; have HB5 := hidden (HBA.out.trans b5); have HC5 := hidden ((g5.block c (by obtain ⟨cs, fz, h⟩ := HT.out; exact (Array.getElem?_eq_some_iff.1 (HCA.out.trans h)).1) (HCN.out _ HRA.out)).trans HCA.out); clear h5 g5 b5)
              go_wp2
              go_roundw
              case rel => exact ⟨p + 1, by omega, by go_num, by rw [HF2.out]; exact H5.out, HB5.out, HC5.out⟩
              case measure => simp [Go.RowKit.intOf]; omega
          · obtain rfl : p = N := by omega
            go_wp2
            go_ret
            exact ⟨_, rfl, by rw [HE.out]; exact HR.out, HB.out⟩
      · have HE := hidden (endsV_no (L := L) (W := byN s) (a := (k : Int)) (.inr (.inr (by rw [byN_len]; omega))))
        rw [hz] at HCK
        obtain ⟨av, cv, rfl, _⟩ := h
        have hd : decide ((k : Int) < 0) = false := decide_eq_false (by omega)
        have hd1 : decide ((s.size : Int) < k) = true := decide_eq_true (by omega)
        have hd2 : decide (s.size < k) = true := decide_eq_true (by omega)
        clear hck hb1 H hz
        go_enter Tryz.func48, Tryz.ntmps48
        go_wp2_with fail
        refine HCK.out.mono ?_
        rintro e w1 ⟨rfl, rfl⟩
        go_wp2
        go_ret
        exact ⟨_, rfl, by rw [HE.out]; exact HR0.out, HB1.out⟩
  · have HE := hidden (endsV_no (L := L) (W := byN s) (a := a) (.inl hz))
    have q0 : ((measV L).2 == 0) = false := by simpa using hz
    have q1 : ((measV L).2 != 0) = true := by simpa using hz
    obtain ⟨av, cv, rfl, _⟩ := h
    generalize (measV L).2 = z at *
    clear hck hb1 H hz
    go_enter Tryz.func48, Tryz.ntmps48
    go_wp2_with fail
    refine HCK.out.mono ?_
    rintro e w1 ⟨rfl, rfl⟩
    go_wp2
    go_ret
    exact ⟨_, rfl, by rw [HE.out]; exact HR0.out, HB1.out⟩
end Go.Proofs.YtmpjjnjggihojaaGreatDoor
