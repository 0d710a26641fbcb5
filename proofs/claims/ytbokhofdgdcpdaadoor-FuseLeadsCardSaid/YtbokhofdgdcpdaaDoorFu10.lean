/- MaRow, FaEnds, FaSame, put together. -/
import Derived.Test.YtbokhofdgdcpdaaDoorFu09
import Derived.Laws.OwnMore
import Derived.Lib.SmallJoins
import Derived.Laws.AppendOwn
import Derived.Laws.Rows
/- Slices of numbers: what they read as; rows of the call's own; contracts of the reference's Has, Right and Same. -/
namespace Go.Proofs.YtbokhofdgdcpdaaDoor
open Go.RowKit Go.Lib Go.Joins

theorem infoInt : (Tryd.prog.info? 3).map (fun i => (i.zero, i.size, i.bytes)) = some (some (.int .i64 0), 1, 8) := by kernel_rfl
/-- slice value v reads as these numbers, in a block that stands below B -/
def RdZ (B : Nat) (w : World) (v : Value) (l : List Int) : Prop := ∃ a cap, v = .slice a l.length cap ∧ l.length ≤ cap ∧ cap ≤ maxLen ∧ (a = none → cap = 0) ∧ (0 < l.length → ∃ b off, a = some ⟨b, off, none⟩ ∧ b < B ∧ ∀ i, i < l.length → w.cell? ⟨b, off + i, none⟩ = some (.int .i64 (l.getD i 0)))
theorem RdZ.below {B B' : Nat} {w w' : World} {v : Value} {l : List Int} (h : RdZ B w v l) (hb : Below B w w') (hB : B ≤ B') : RdZ B' w' v l := by
  obtain ⟨a, cap, rfl, h1, h2, h3, h4⟩ := h
  refine ⟨a, cap, rfl, h1, h2, h3, fun hp => ?_⟩
  obtain ⟨b, off, e, hlt, hc⟩ := h4 hp
  exact ⟨b, off, e, by omega, fun i hi => (hb.cell (p := ⟨b, off + i, none⟩) hlt).trans (hc i hi)⟩
theorem RdZ.later {w w' : World} {v : Value} {l : List Int} (h : RdZ w.heap.size w v l) (hb : Below w.heap.size w w') : RdZ w'.heap.size w' v l := h.below hb hb.size
theorem RdZ.form {B : Nat} {w : World} {v : Value} {l : List Int} (h : RdZ B w v l) : ∃ a cap, v = .slice a l.length cap := by
  obtain ⟨a, cap, rfl, _⟩ := h
  exact ⟨a, cap, rfl⟩
/-- slice value v owns these numbers, in a block from base on -/
def RowZ (w : World) (base : Nat) (v : Value) (l : List Int) : Prop := w.ownsRow base 3 1 v l.length (l.map (Value.int .i64))
theorem RowZ.nil (w : World) (base : Nat) : RowZ w base (.slice none 0 0) [] := World.ownsRow_nil _ _ _ _
theorem RowZ.lit (w : World) (b : Nat) (hb : b = w.heap.size) (cur : Array Value) (hc : cur = #[]) : RowZ (w.alloc (.cells cur 3)) w.heap.size (.slice (some ⟨b, 0, none⟩) 0 0) [] := by
  subst hb hc
  exact World.ownsRow_lit (e := 3) (size := 1) w #[] 0 (Nat.le_refl _) (by decide) rfl
theorem RowZ.kept {w w' : World} {base : Nat} {v : Value} {l : List Int} (h : RowZ w base v l) (hb : Below w.heap.size w w') : RowZ w' base v l :=
  World.ownsRow.kept (row := none) h ⟨hb.os, hb.tape, hb.output, hb.size, fun k hk _ => hb.block k hk⟩ (by cases v.ownBlock <;> simp)
theorem RowZ.lower {w : World} {base base' : Nat} {v : Value} {l : List Int} (h : RowZ w base v l) (hb : base' ≤ base) : RowZ w base' v l := ownsRow_le h hb
theorem RowZ.form {w : World} {base : Nat} {v : Value} {l : List Int} (h : RowZ w base v l) : ∃ a cap, v = .slice a l.length cap := by
  rcases ownsRow_forms h with ⟨rfl, h0⟩ | ⟨g, cap, rfl⟩
  · exact ⟨none, 0, by rw [h0]⟩
  · exact ⟨_, _, rfl⟩
theorem RowZ.reads {w : World} {base : Nat} {v : Value} {l : List Int} (h : RowZ w base v l) : RdZ w.heap.size w v l := by
  have h' := h
  rcases h.2 with ⟨rfl, h0⟩ | ⟨g, cap, cur, rfl, hb, hg, h1, h2, h3, h4⟩
  · exact ⟨none, 0, by rw [h0], by omega, by decide, fun _ => rfl, fun hp => by omega⟩
  · refine ⟨some ⟨g, 0, none⟩, cap, rfl, h1, h2, (fun e => by cases e), fun _ => ⟨g, 0, rfl, (Array.getElem?_eq_some_iff.1 hg).1, fun i hi => ?_⟩⟩
    rw [Nat.zero_add, World.ownsRow.cellAt h' i (by omega), List.getElem?_map, List.getD_eq_getElem?_getD, List.getElem?_eq_getElem hi]
    rfl
def RetZ (w : World) (l : List Int) (e : Ending) (w' : World) : Prop := ∃ v, e = .returned v ∧ RowZ w' w.heap.size v l ∧ Below w.heap.size w w'
/-- an append of one number -/
theorem app_z {w : World} {ops : Array Oper} {rest : List Oper} {o : Oper} {a : Act} {Q : Exit → Act → World → Prop} (hgd : o.guard = none) (s x : Operand)
    (ho : o.op = .call { callee := .builtin .append, args := #[s, x], argTypes := #[30, 30] }) {base xb : Nat} {z : Int} {v : Value} {l : List Int}
    (hs : a.eval s = v) (hown : RowZ w base v l) (hx : a.eval x = .slice (some ⟨xb, 0, none⟩) 1 1) (hxb : w.heap[xb]? = some (.cells #[.int .i64 z] 3 (0, 0))) {n : Nat} (hn : l.length = n) (hn2 : n ≤ 100000) (hb0 : base ≤ w.heap.size)
    (h : ∀ g' c' w', RowZ w' base (.slice (some ⟨g', 0, none⟩) (n + 1) c') (l ++ [z]) → w.grownBy w' v.ownBlock → Below base w w' → wpList Tryd.prog ops Q rest (a.put o.dst (.slice (some ⟨g', 0, none⟩) (n + 1) c')) w') : wpList Tryd.prog ops Q (o :: rest) a w := by
  subst hn
  obtain ⟨i0, hi, hz0, hz1, hz2⟩ := info_parts infoInt
  refine wpList_append_own w hgd s x 30 ho base 3 i0 _ 1 8 Tryd.underlying30 hi hz0 hz1 hz2 rfl (by decide) _ l.length (l.map (Value.int .i64)) hs hown ⟨xb, 0, none⟩ 1 1 [.int .i64 z] hx rfl (fun j x hj => ?_) (fun x hx => by simp at hx; subst hx; rfl) (by unfold maxLen; omega) (by omega) hb0 fun v' w' h3 h4 _ => ?_
  · match j, hj with
    | 0, hj =>
      simp only [List.getElem?_cons_zero, Option.some.injEq] at hj
      subst hj
      rw [Addr.add_lit, cell_of_row w xb _ _ _ _ hxb]
      rfl
  · have hb : Below base w w' := (Below.refl base w).grown h4 hb0 fun k e => (hown.lt k e).1
    rcases ownsRow_forms h3 with ⟨_, h0⟩ | ⟨g, c, rfl⟩
    · omega
    · exact h g c w' (by unfold RowZ; simpa using h3) h4 hb
/-- does a list rise? -/
instance (l : List Int) : Decidable (Up l) := by unfold Up; infer_instance
end Go.Proofs.YtbokhofdgdcpdaaDoor

/- Contracts of the reference's Ends, Says and SameInts. -/
namespace Go.Proofs.YtbokhofdgdcpdaaDoor
open Go.RowKit Go.Lib Go.Joins

def intV (n : Nat) : Value := .int .i64 n
/-- slice value v owns these numbers -/
def RowI (w : World) (base : Nat) (v : Value) (l : List Nat) : Prop := w.ownsRow base 3 1 v l.length (l.map intV)
theorem RowI.nil (w : World) (base : Nat) : RowI w base (.slice none 0 0) [] := World.ownsRow_nil _ _ _ _
theorem RowI.lit (w : World) (b : Nat) (hb : b = w.heap.size) (cur : Array Value) (hc : cur = #[]) : RowI (w.alloc (.cells cur 3)) w.heap.size (.slice (some ⟨b, 0, none⟩) 0 0) [] := by
  subst hb hc
  exact World.ownsRow_lit (e := 3) (size := 1) w #[] 0 (Nat.le_refl _) (by decide) rfl
theorem RowI.kept {w w' : World} {base : Nat} {v : Value} {l : List Nat} (h : RowI w base v l) (hb : Below w.heap.size w w') : RowI w' base v l :=
  World.ownsRow.kept (row := none) h ⟨hb.os, hb.tape, hb.output, hb.size, fun k hk _ => hb.block k hk⟩ (by cases v.ownBlock <;> simp)
theorem RowI.lower {w : World} {base base' : Nat} {v : Value} {l : List Nat} (h : RowI w base v l) (hb : base' ≤ base) : RowI w base' v l := ownsRow_le h hb
def RetI (w : World) (l : List Nat) (e : Ending) (w' : World) : Prop := ∃ v, e = .returned v ∧ RowI w' w.heap.size v l ∧ Below w.heap.size w w'
/-- an append of one number -/
theorem app_int {w : World} {ops : Array Oper} {rest : List Oper} {o : Oper} {a : Act} {Q : Exit → Act → World → Prop} (hgd : o.guard = none) (s x : Operand)
    (ho : o.op = .call { callee := .builtin .append, args := #[s, x], argTypes := #[30, 30] }) {base xb n : Nat} {v : Value} {l : List Nat}
    (hs : a.eval s = v) (hown : RowI w base v l) (hx : a.eval x = .slice (some ⟨xb, 0, none⟩) 1 1) (hxb : w.heap[xb]? = some (.cells #[.int .i64 (n : Int)] 3)) (hn2 : l.length ≤ 100000) (hb0 : base ≤ w.heap.size)
    (h : ∀ g' c' w', RowI w' base (.slice (some ⟨g', 0, none⟩) (l.length + 1) c') (l ++ [n]) → w.grownBy w' v.ownBlock → Below base w w' → wpList Tryd.prog ops Q rest (a.put o.dst (.slice (some ⟨g', 0, none⟩) (l.length + 1) c')) w') : wpList Tryd.prog ops Q (o :: rest) a w := by
  obtain ⟨i0, hi, hz0, hz1, hz2⟩ := info_parts infoInt
  refine wpList_append_own w hgd s x 30 ho base 3 i0 _ 1 8 Tryd.underlying30 hi hz0 hz1 hz2 rfl (by decide) _ l.length (l.map intV) hs hown ⟨xb, 0, none⟩ 1 1 [intV n] hx rfl (fun j x hj => ?_) (fun x hx => by simp at hx; subst hx; rfl) (by unfold maxLen; omega) (by omega) hb0 fun v' w' h3 h4 _ => ?_
  · match j, hj with
    | 0, hj =>
      simp only [List.getElem?_cons_zero, Option.some.injEq] at hj
      subst hj
      rw [Addr.add_lit, cell_of_row w xb _ _ _ _ hxb]
      rfl
  · have hb : Below base w w' := (Below.refl base w).grown h4 hb0 fun k e => (hown.lt k e).1
    rcases ownsRow_forms h3 with ⟨_, h0⟩ | ⟨g, c, rfl⟩
    · omega
    · exact h g c w' (by unfold RowI; simpa using h3) h4 hb

open Classical in
noncomputable def endsV (L : List Stp) (W : List Nat) (a : Int) : List Nat := if (measV L).2 = 0 ∧ 0 ≤ a ∧ a ≤ W.length then (List.range (W.length + 1)).filter (lgB (treeE L) W a.toNat) else []
theorem endsV_yes {L : List Stp} {W : List Nat} {a : Nat} (h : (measV L).2 = 0) (ha : a ≤ W.length) : endsV L W a = (List.range (W.length + 1)).filter (lgB (treeE L) W a) := by
  unfold endsV
  rw [if_pos ⟨h, by omega, by omega⟩, Int.toNat_natCast]
theorem endsV_no {L : List Stp} {W : List Nat} {a : Int} (h : (measV L).2 ≠ 0 ∨ a < 0 ∨ (W.length : Int) < a) : endsV L W a = [] := by
  unfold endsV
  rw [if_neg (by omega)]
theorem filter_more (p : Nat → Bool) (k : Nat) : (List.range (k + 1)).filter p = (List.range k).filter p ++ (if p k = true then [k] else []) := by
  rw [List.range_succ, List.filter_append]
  cases h : p k <;> simp [h]
theorem filter_len (p : Nat → Bool) (k : Nat) : ((List.range k).filter p).length ≤ k := by
  have := List.length_filter_le p (List.range k)
  simpa using this
set_option maxHeartbeats 8000000 in
set_option maxRecDepth 100000 in
theorem rends_calls {C : Nat → Prop} {v0 : Value} {L : List Stp} {w : World} (h : SlX C w v0 L) (hC : ∀ b, C b → b < w.heap.size) (s : ByteArray) (hs : s.size ≤ 1000) (hwd : ∀ s ∈ L, s.wide) (a : Int) :
    Calls Tryd.prog 58 #[v0, .string s, .int .i64 a] w (RetI w (endsV L (byN s) a)) := by
  have H := hidden h
  have hck := hidden (fun W (hb : Below w.heap.size w W) => rcheck_slX (h.below (C' := fun b => b < W.heap.size) fun b hb' => ⟨Nat.lt_of_lt_of_le (hC b hb') hb.size, hb.block b (hC b hb')⟩))
  have hb1 : Below w.heap.size w (w.alloc (.cells #[] 3)) := (Below.refl _ _).alloc (Nat.le_refl _) _
  have HCK := hidden (hck.out _ hb1)
  have HB1 := hidden hb1
  have HR0 := hidden (RowI.lit w _ rfl _ rfl)
  by_cases hz : (measV L).2 = 0
  · by_cases ha : a < 0
    · have HE := hidden (endsV_no (L := L) (W := byN s) (a := a) (.inr (.inl ha)))
      rw [hz] at HCK
      obtain ⟨av, cv, rfl, _⟩ := h
      have hd : decide (a < 0) = true := decide_eq_true ha
      clear hck hb1 H hz
      go_enter Tryd.func58, Tryd.ntmps58
      go_wp2_with fail
      refine HCK.out.mono ?_
      rintro e w1 ⟨rfl, rfl⟩
      go_wp2
      go_ret
      exact ⟨_, rfl, by rw [HE.out]; exact HR0.out, HB1.out⟩
    · obtain ⟨k, rfl⟩ : ∃ k : Nat, a = k := ⟨a.toNat, by omega⟩
      by_cases hk : k ≤ s.size
      · have HE := hidden (endsV_yes (L := L) (W := byN s) (a := k) hz (by rw [byN_len]; exact hk))
        rw [byN_len] at HE
        have HLD := hidden (leads_calls (h.below (C' := fun b => b < (w.alloc (.cells #[] 3)).heap.size) (w' := w.alloc (.cells #[] 3)) fun b hb' => ⟨Nat.lt_of_lt_of_le (hC b hb') hb1.size, hb1.block b (hC b hb')⟩) (fun b hb => hb) s hs hz hwd)
        rw [hz] at HCK
        obtain ⟨av, cv, rfl, _⟩ := h
        generalize lgB (treeE L) (byN s) = M at *
        obtain ⟨N, hN⟩ : ∃ N, N = s.size + 1 := ⟨_, rfl⟩
        rw [← hN] at HE HLD
        have hkN : k < N := by omega
        have hNle : N ≤ 1001 := by omega
        have hd : decide ((k : Int) < 0) = false := decide_eq_false (by omega)
        have hd1 : decide ((s.size : Int) < k) = false := decide_eq_false (by omega)
        have hd2 : decide (s.size < k) = false := decide_eq_false (by omega)
        clear hck hb1 H hz hN ha
        go_enter Tryd.func58, Tryd.ntmps58
        go_wp2_with fail
        refine HCK.out.mono ?_
        rintro e w1 ⟨rfl, rfl⟩
        go_wp2_with fail
        refine HLD.out.mono ?_
        rintro e w2 ⟨u, rfl, hu, hb2⟩
        have HM := hidden hu
        have HR2 := hidden (HR0.out.kept hb2)
        have HB2 := hidden (below_after HB1.out hb2)
        obtain ⟨bu, ou, cu, rfl, hc⟩ := hu
        obtain ⟨c, o, cp, c1, hcq, hct⟩ := hc k hkN
        have HQ := hidden hcq
        have HT := hidden hct
        clear hcq hct
        clear hc hb2
        go_wp2
        go_loopw [7, 9] (fun v i wr => ∃ p : Nat, p ≤ N ∧ i = .int .i64 p ∧ RowI wr w.heap.size v ((List.range p).filter (M k)) ∧ Below w.heap.size w wr ∧ wr.heap[c]? = w2.heap[c]?) (fun _ i _ => N - (intOf i).toNat)
        case atStart => exact ⟨0, by omega, rfl, HR2.out, HB2.out, rfl⟩
        case round =>
          obtain ⟨p, hp, rfl, hr, hb, hbc⟩ := hrel
          have HR := hidden hr
          have HB := hidden hb
          have HBC := hidden hbc
          have hfl := filter_len (M k) p
          have HF := hidden (filter_more (M k) p)
          clear hr hb
          by_cases hlt : p < N
          · have c2 : wr.cell? ⟨c, o + p, none⟩ = some (.bool (M k p)) := (World.cell?_of_block (a := ⟨c, o + p, none⟩) hbc).trans (HQ.out p hlt)
            clear hbc
            obtain ⟨x, hx⟩ : ∃ x, x = M k p := ⟨_, rfl⟩
            rw [← hx] at c2 HF
            cases x
            · have HF2 := hidden (show (List.range (p + 1)).filter (M k) = (List.range p).filter (M k) by rw [HF.out]; simp)
              clear hx HF
              go_wp2
              go_roundw
              case rel => exact ⟨p + 1, by omega, by go_num, by rw [HF2.out]; exact HR.out, HB.out, HBC.out⟩
              case measure => simp [intOf]; omega
            · have HF2 := hidden (show (List.range (p + 1)).filter (M k) = (List.range p).filter (M k) ++ [p] by rw [HF.out]; simp)
              clear hx HF
              have HRA := hidden (World.ownsRow.alloc HR.out (.cells #[.int .i64 (p : Int)] 3))
              have HBA := hidden (HB.out.alloc HB.out.size (.cells #[.int .i64 (p : Int)] 3))
              have hsz := HBA.out.size
              have HCA := hidden (show (wr.alloc (.cells #[.int .i64 (p : Int)] 3)).heap[c]? = w2.heap[c]? from by
                obtain ⟨cs, fz, h⟩ := HT.out
                exact (heap_alloc_old wr _ (Array.getElem?_eq_some_iff.1 (HBC.out.trans h)).1).trans HBC.out)
              have HCN := hidden (fun (v : Value) (hv : RowI (wr.alloc (.cells #[.int .i64 (p : Int)] 3)) w.heap.size v ((List.range p).filter (M k))) => (show some c ≠ v.ownBlock from fun e => by
                obtain ⟨cs, fz, h⟩ := HT.out
                rcases hv.2 with ⟨rfl, _⟩ | ⟨g, cap', cur, rfl, _, hg, _⟩
                · simp [Value.ownBlock] at e
                · simp only [Value.ownBlock, Option.some.injEq] at e
                  subst e
                  rw [HCA.out, h] at hg
                  simp at hg))
              have hfl2 : ((List.range p).filter (M k)).length ≤ 100000 := by omega
              generalize (List.range p).filter (M k) = l at *
              go_wp2_with (at_builtin; refine app_int rfl _ _ rfl (base := w.heap.size) (n := p) (l := l) rfl HRA.out rfl (heap_alloc_new wr _) hfl2 hsz ?_; intro g' c' w5 h5 g5 b5; have H5 := hidden h5; have HB5 := hidden (HBA.out.trans b5); have HC5 := hidden ((g5.block c (by obtain ⟨cs, fz, h⟩ := HT.out; exact (Array.getElem?_eq_some_iff.1 (HCA.out.trans h)).1) (HCN.out _ HRA.out)).trans HCA.out); clear h5 g5 b5)
              go_wp2
              go_roundw
              case rel => exact ⟨p + 1, by omega, by go_num, by rw [HF2.out]; exact H5.out, HB5.out, HC5.out⟩
              case measure => simp [intOf]; omega
          · obtain rfl : p = N := by omega
            go_wp2
            go_ret
            exact ⟨_, rfl, by rw [HE.out]; exact HR.out, HB.out⟩
      · have HE := hidden (endsV_no (L := L) (W := byN s) (a := (k : Int)) (.inr (.inr (by rw [byN_len]; omega))))
        rw [hz] at HCK
        obtain ⟨av, cv, rfl, _⟩ := h
        have hd : decide ((k : Int) < 0) = false := decide_eq_false (by omega)
        have hd1 : decide ((s.size : Int) < k) = true := decide_eq_true (by omega)
        have hd2 : decide (s.size < k) = true := decide_eq_true (by omega)
        clear hck hb1 H hz
        go_enter Tryd.func58, Tryd.ntmps58
        go_wp2_with fail
        refine HCK.out.mono ?_
        rintro e w1 ⟨rfl, rfl⟩
        go_wp2
        go_ret
        exact ⟨_, rfl, by rw [HE.out]; exact HR0.out, HB1.out⟩
  · have HE := hidden (endsV_no (L := L) (W := byN s) (a := a) (.inl hz))
    have q0 : ((measV L).2 == 0) = false := by simpa using hz
    have q1 : ((measV L).2 != 0) = true := by simpa using hz
    obtain ⟨av, cv, rfl, _⟩ := h
    generalize (measV L).2 = z at *
    clear hck hb1 H hz
    go_enter Tryd.func58, Tryd.ntmps58
    go_wp2_with fail
    refine HCK.out.mono ?_
    rintro e w1 ⟨rfl, rfl⟩
    go_wp2
    go_ret
    exact ⟨_, rfl, by rw [HE.out]; exact HR0.out, HB1.out⟩
end Go.Proofs.YtbokhofdgdcpdaaDoor

/- Contracts of the reference's Says and SameInts. -/
namespace Go.Proofs.YtbokhofdgdcpdaaDoor
open Go.RowKit Go.Lib Go.Joins

/-- slice value v reads as these numbers -/
def RdI (w : World) (v : Value) (l : List Nat) : Prop := ∃ a cap, v = .slice a l.length cap ∧ (0 < l.length → ∃ b, a = some ⟨b, 0, none⟩ ∧ ∀ i, i < l.length → w.cell? ⟨b, i, none⟩ = some (.int .i64 ((l.getD i 0 : Nat) : Int)))
theorem RowI.reads {w : World} {base : Nat} {v : Value} {l : List Nat} (h : RowI w base v l) : RdI w v l := by
  rcases ownsRow_forms h with ⟨rfl, h0⟩ | ⟨g, cap, rfl⟩
  · exact ⟨none, 0, by rw [h0], fun hp => by omega⟩
  · refine ⟨some ⟨g, 0, none⟩, cap, rfl, fun _ => ⟨g, rfl, fun i hi => ?_⟩⟩
    rw [World.ownsRow.cellAt h i (by omega), List.getElem?_map, List.getD_eq_getElem?_getD, List.getElem?_eq_getElem hi]
    rfl
theorem RdI.below {w w' : World} {v : Value} {l : List Nat} (h : RdI w v l) (hb : Below w.heap.size w w') : RdI w' v l := by
  obtain ⟨a, cap, rfl, h1⟩ := h
  refine ⟨a, cap, rfl, fun hp => ?_⟩
  obtain ⟨b, e, hc⟩ := h1 hp
  exact ⟨b, e, fun i hi => (hb.cell (p := ⟨b, i, none⟩) (cell_lt (hc i hi))).trans (hc i hi)⟩
theorem lastIs_eq (l : List Nat) (n : Nat) : lastIs l n = (decide (0 < l.length) && (((l.getD (l.length - 1) 0 : Nat) : Int) == (n : Int))) := by
  unfold lastIs
  rw [List.getLast?_eq_getElem?]
  by_cases h : 0 < l.length
  · rw [List.getD_eq_getElem?_getD, List.getElem?_eq_getElem (by omega)]
    simp [h]
    rw [Bool.eq_iff_iff]
    simp
    omega
  · have : l = [] := List.eq_nil_of_length_eq_zero (by omega)
    subst this
    rfl
set_option maxHeartbeats 4000000 in
set_option maxRecDepth 100000 in
theorem rsays_calls {C : Nat → Prop} {v0 : Value} {L : List Stp} {w : World} (h : SlX C w v0 L) (hC : ∀ b, C b → b < w.heap.size) (s : ByteArray) (hs : s.size ≤ 1000) (hwd : ∀ s ∈ L, s.wide) :
    Calls Tryd.prog 25 #[v0, .string s] w fun e w' => e = .returned (.bool (lastIs (endsV L (byN s) 0) s.size)) ∧ Below w.heap.size w w' := by
  have H := hidden (rends_calls h hC s hs hwd 0)
  have HL := hidden (lastIs_eq (endsV L (byN s) 0) s.size)
  obtain ⟨av, cv, rfl, _⟩ := h
  have hlen : (endsV L (byN s) 0).length ≤ 1001 := by
    unfold endsV
    split
    · have := filter_len (lgB (treeE L) (byN s) (0 : Int).toNat) ((byN s).length + 1)
      rw [byN_len] at this ⊢
      omega
    · simp
  generalize endsV L (byN s) 0 = l at *
  go_enter Tryd.func25, Tryd.ntmps25
  go_wp2_with fail
  refine H.out.mono ?_
  rintro e w1 ⟨v, rfl, hv, hb⟩
  obtain ⟨a, cap, rfl, hc⟩ := hv.reads
  have HC := hidden hc
  have HB := hidden hb
  obtain ⟨n, hn⟩ : ∃ n, n = l.length := ⟨_, rfl⟩
  rw [← hn] at HL HC hlen ⊢
  clear hv hc hb hn
  by_cases hp : 0 < n
  · obtain ⟨b, rfl, hc⟩ := HC.out hp
    obtain ⟨m, hm⟩ : ∃ m, m = n - 1 := ⟨_, rfl⟩
    rw [← hm] at HL
    have hmn : m < n := by omega
    have c0 := hc m hmn
    have hw : IntKind.i64.wrap ((n : Int) - 1) = (m : Int) := by rw [IntKind.wrap_i64]; omega
    have hd : decide ((0 : Int) < n) = true := decide_eq_true (by omega)
    have hd2 : decide (0 < n) = true := decide_eq_true hp
    rw [hd2, Bool.true_and] at HL
    generalize l.getD m 0 = x at *
    clear hc hm hp
    go_wp2
    go_ret
    exact ⟨ret_b HL.out.symm, HB.out⟩
  · have hd : decide ((0 : Int) < n) = false := decide_eq_false (by omega)
    have hd2 : decide (0 < n) = false := decide_eq_false hp
    rw [hd2, Bool.false_and] at HL
    clear hp
    go_wp2
    go_ret
    exact ⟨ret_b HL.out.symm, HB.out⟩
theorem drop_eq {l m : List Nat} (k : Nat) (hk : k < l.length) (hl : l.length = m.length) : (l.drop k = m.drop k) ↔ (l.getD k 0 = m.getD k 0 ∧ l.drop (k + 1) = m.drop (k + 1)) := by
  rw [List.drop_eq_getElem_cons hk, List.drop_eq_getElem_cons (by omega : k < m.length), List.getD_eq_getElem?_getD, List.getD_eq_getElem?_getD, List.getElem?_eq_getElem hk, List.getElem?_eq_getElem (by omega : k < m.length)]
  exact ⟨fun h => List.cons.inj h, fun h => by rw [show l[k] = m[k] from h.1, h.2]⟩
set_option maxHeartbeats 4000000 in
set_option maxRecDepth 100000 in
theorem same_ints {va vb : Value} {l m : List Nat} {w : World} (ha : RdI w va l) (hb : RdI w vb m) (hl : l.length ≤ 100000) :
    Calls Tryd.prog 13 #[va, vb] w fun e w' => e = .returned (.bool (decide (l = m))) ∧ Below w.heap.size w w' := by
  obtain ⟨a, ca, rfl, h1⟩ := ha
  obtain ⟨b, cb, rfl, h2⟩ := hb
  by_cases hne : l.length = m.length
  · have HR := hidden (fun (x : Bool) (h : (l = m) ↔ x = true) => (show decide (l = m) = x by cases x <;> simp_all))
    have HD := hidden (fun k hk => drop_eq k hk hne)
    have HEnd := hidden (fun k (hk : l.length ≤ k) => (show l.drop k = m.drop k by rw [List.drop_eq_nil_of_le hk, List.drop_eq_nil_of_le (by omega)]))
    have H1 := hidden h1
    rw [← hne] at h2
    have H2 := hidden h2
    rw [← hne]
    obtain ⟨n, hn⟩ : ∃ n, n = l.length := ⟨_, rfl⟩
    rw [← hn] at HD HEnd H1 H2 hl ⊢
    have hq : ((n : Int) != (n : Int)) = false := by simp
    clear h1 h2 hn hne
    go_enter Tryd.func13, Tryd.ntmps13
    go_wp2
    go_loopw [5] (fun i wr => ∃ k : Nat, k ≤ n ∧ i = .int .i64 k ∧ Hid ((l = m) ↔ l.drop k = m.drop k) ∧ Below w.heap.size w wr) (fun i _ => n - (intOf i).toNat)
    case atStart => exact ⟨0, by omega, rfl, hidden (by simp), Below.refl _ _⟩
    case round =>
      obtain ⟨k, hk, rfl, hd, hb⟩ := hrel
      have HB := hidden hb
      by_cases hlt : k < n
      · obtain ⟨ba, rfl, c1⟩ := H1.out (by omega)
        obtain ⟨bb, rfl, c2⟩ := H2.out (by omega)
        have d1 := (hb.cell (p := ⟨ba, k, none⟩) (cell_lt (c1 k hlt))).trans (c1 k hlt)
        have d2 := (hb.cell (p := ⟨bb, k, none⟩) (cell_lt (c2 k hlt))).trans (c2 k hlt)
        have HK := hidden (HD.out k hlt)
        clear c1 c2 hb
        by_cases he : l.getD k 0 = m.getD k 0
        · have HE := hidden (show (l = m) ↔ l.drop (k + 1) = m.drop (k + 1) by rw [hd.out, HK.out]; exact ⟨fun h => h.2, fun h => ⟨he, h⟩⟩)
          rw [he] at d1
          generalize m.getD k 0 = x at *
          have hq : ((x : Int) != (x : Int)) = false := by simp
          clear he HK hd
          go_wp2
          go_region
          all_goals
            go_wp2
            go_roundw
            case rel => exact ⟨k + 1, by omega, by go_num, HE, HB.out.drew⟩
            case measure => simp [intOf]; omega
        · have HE := hidden (HR.out false (by rw [hd.out, HK.out]; exact ⟨fun h => absurd h.1 he, fun h => by cases h⟩))
          have hq : (((l.getD k 0 : Nat) : Int) != ((m.getD k 0 : Nat) : Int)) = true := bne_iff_ne.2 (by omega)
          generalize l.getD k 0 = x at *
          generalize m.getD k 0 = y at *
          clear he HK hd
          go_wp2
          go_region
          all_goals
            go_wp2
            go_ret
            exact ⟨ret_b HE.out.symm, HB.out.drew⟩
      · have HE := hidden (HR.out true (by rw [hd.out]; simp [HEnd.out k (by omega)]))
        clear hd
        go_wp2
        go_ret
        exact ⟨ret_b HE.out.symm, HB.out⟩
  · have HE := hidden (show decide (l = m) = false from decide_eq_false fun e => hne (by rw [e]))
    obtain ⟨n, hn⟩ : ∃ n, n = l.length := ⟨_, rfl⟩
    obtain ⟨k, hk⟩ : ∃ n, n = m.length := ⟨_, rfl⟩
    rw [← hn, ← hk] at hne ⊢
    have hq : ((n : Int) != (k : Int)) = true := by simp; omega
    clear hn hk h1 h2 hne hl
    go_enter Tryd.func13, Tryd.ntmps13
    go_wp2
    go_ret
    exact ⟨ret_b HE.out.symm, Below.refl _ _⟩
end Go.Proofs.YtbokhofdgdcpdaaDoor
