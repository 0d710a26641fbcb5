/- Contracts of what pads an Out: slices.Grow at bytes, fill, Pad. -/
import Derived.Test.YtcfedekcbbalcaaOutPut
import Derived.Lib.AppendZerosOnto
namespace Go.Proofs.Ytcfedekcbbalcaa
open Go.RowKit Go.Lib

/-- what Grow leaves: the row has room for n more, whatever they are -/
def Grown8 (B : Nat) (w : World) (v : Value) (l n : Nat) (xs : List Value) (e : Ending) (w' : World) : Prop :=
  ∃ a c ys, e = .returned (.slice a l c) ∧ l + n ≤ c ∧ c ≤ maxLen ∧ ys.length = n ∧ w'.ownsRow B 5 1 (.slice a (l + n) c) (l + n) (xs ++ ys) ∧ w.grownBy w' v.ownBlock

theorem grow_room {B : Nat} {w : World} {a : Option Addr} {l c n : Nat} {xs : List Value} (h : w.ownsRow B 5 1 (.slice a l c) l xs) (hn : l + n ≤ c) (hn2 : n ≤ 1073741824) :
    Calls Try.prog 27 #[.slice a l c, .int .i64 n] w fun e w' => Grown8 B w (.slice a l c) l n xs e w' := by
  have hcm : c ≤ 9223372036854775807 := by
    rcases h.2 with ⟨hv, h0⟩ | ⟨g, cap, cur, hv, _, _, _, hc, _⟩
    · cases hv
      omega
    · cases hv
      exact hc
  have R : Grown8 B w (.slice a l c) l n xs (.returned (.slice a l c)) w := by
    have hl : xs.length = l := by simpa using h.1
    rcases h.2 with ⟨hv, h0⟩ | ⟨g, cap, cur, hv, hb, hg, hlc, hc, hs, ht⟩
    · cases hv
      obtain rfl : n = 0 := by omega
      exact ⟨none, 0, [], rfl, Nat.le_refl _, Nat.zero_le _, rfl, by simpa using h, grown_refl _ _⟩
    · cases hv
      refine ⟨_, c, (cur.toList.drop l).take n, rfl, hn, hc, ?_, ⟨?_, .inr ⟨g, c, cur, rfl, hb, hg, hn, hc, hs, ?_⟩⟩, grown_refl _ _⟩
      · simp
        omega
      · simp
        omega
      · rw [Nat.mul_one] at ht hs ⊢
        rw [List.take_add, ht]
  have HR := hidden R
  have h2 : wrap64 ((c : Int) - (l : Int)) = (c : Int) - (l : Int) := by unfold wrap64; omega
  have h3 : wrap64 ((n : Int) - ((c : Int) - (l : Int))) = (n : Int) - ((c : Int) - (l : Int)) := by unfold wrap64; omega
  have h4 : ¬ ((n : Int) - ((c : Int) - (l : Int)) > 0) := by omega
  clear R h
  go_enter Try.func27, Try.ntmps27
  go_wp2
  go_ret
  exact HR.out
set_option maxHeartbeats 1000000 in
theorem grow_grow {B : Nat} {w : World} {a : Option Addr} {l c n : Nat} {xs : List Value} (h : w.ownsRow B 5 1 (.slice a l c) l xs) (hlc : l ≤ c) (hB : B ≤ w.heap.size) (hn : c < l + n) (hn2 : l + n ≤ 4294967296) :
    Calls Try.prog 27 #[.slice a l c, .int .i64 n] w fun e w' => Grown8 B w (.slice a l c) l n xs e w' := by
  obtain ⟨i0, hi, hz0, hz1, hz2⟩ := info_parts infoByte
  obtain ⟨cs, hcl, hxs, hold, hform⟩ : ∃ cs : List Value, cs.length = c ∧ cs.take l = xs ∧ (Builtin.firstCells i0.size c (.slice a c c)).run Try.prog w.drew = .ok cs.toArray w.drew ∧ ((a = none ∧ l = 0 ∧ c = 0) ∨ ∃ g, a = some ⟨g, 0, none⟩) := by
    rcases h.2 with ⟨hv, h0⟩ | ⟨g, cap, cur, hv, hb, hg, _, hc, hs, ht⟩
    · cases hv
      have hx : xs = [] := List.eq_nil_of_length_eq_zero (by simpa using h.1)
      exact ⟨[], rfl, by simp [hx], run_firstCells_none w.drew i0.size 0 0 0, .inl ⟨rfl, rfl, rfl⟩⟩
    · cases hv
      rw [Nat.mul_one] at ht hs
      refine ⟨cur.toList, by simpa using hs, ht, ?_, .inr ⟨g, rfl⟩⟩
      refine run_firstCells_some w.drew i0.size c ⟨g, 0, none⟩ c c cur.toList (by rw [hz1]; simpa using hs) fun j v hj => ?_
      have hadd : (⟨g, 0, none⟩ : Addr).add j = ⟨g, j, none⟩ := by unfold Addr.add; split <;> simp_all
      rw [hadd, cell_of_row w.drew g j cur 5 (0, 0) hg]
      simpa using hj
  have hrz : ∀ ty, (Builtin.append_ #[52, 3] ty #[.slice a c c, .int .i64 ((n : Int) - ((c : Int) - (l : Int)))]).run Try.prog w =
      .ok (.slice (some ⟨w.heap.size, 0, none⟩) (l + n) (grownCap w (l + n) c 5)) (w.drew.alloc (.cells (cs.toArray ++ Builtin.zeroCells (Value.int .u8 0).cells (l + n - c) ++ Builtin.zeroCells (Value.int .u8 0).cells (grownCap w (l + n) c 5 - (l + n))) 5)) := fun ty => by
    have h := Lib.run_append_grow_zeros w 52 3 ty 5 i0 (.int .u8 0) .i64 .i64 Try.underlying52 Try.underlying3 hi hz0 a c c cs hold (l + n - c) (by omega) (by omega) (by omega) (by omega)
      (by rw [hz2]; omega) (by rw [hz2]; exact growslice_fits (by omega) (by omega))
    rw [show c + (l + n - c) = l + n by omega] at h
    rw [show (n : Int) - ((c : Int) - (l : Int)) = ((l + n - c : Nat) : Int) by omega]
    exact h
  have hGn : l + n ≤ grownCap w (l + n) c 5 := grownCap_ge w _ _ _
  have hGm : grownCap w (l + n) c 5 ≤ maxLen := grownCap_le_maxLen w (l + n) c 5 (by unfold maxLen; omega)
  generalize grownCap w (l + n) c 5 = G at *
  have R : Grown8 B w (.slice a l c) l n xs (.returned (.slice (some ⟨w.heap.size, 0, none⟩) l G)) (w.drew.alloc (.cells (cs.toArray ++ Builtin.zeroCells (Value.int .u8 0).cells (l + n - c) ++ Builtin.zeroCells (Value.int .u8 0).cells (G - (l + n))) 5)) := by
    have hl : xs.length = l := by simpa using h.1
    have e0 : (Value.int .u8 0).cells.size = 1 := rfl
    refine ⟨_, G, cs.drop l ++ (Builtin.zeroCells (Value.int .u8 0).cells (l + n - c)).toList, rfl, hGn, hGm, ?_, ⟨?_, .inr ⟨w.heap.size, G, _, rfl, hB, heap_alloc_new w.drew _, hGn, hGm, ?_, ?_⟩⟩, ⟨rfl, rfl, rfl, by simp, fun k hk _ => heap_alloc_old w.drew _ hk⟩⟩
    · simp [size_zeroCells, e0, hcl]
      omega
    · simp [size_zeroCells, e0, hcl, hl]
      omega
    · simp [size_zeroCells, e0, hcl]
      omega
    · have hle : (cs ++ (Builtin.zeroCells (Value.int .u8 0).cells (l + n - c)).toList).length = (l + n) * 1 := by
        simp [size_zeroCells, e0, hcl]
        omega
      simp only [Array.toList_append]
      rw [← hle, List.take_left, ← hxs, ← List.append_assoc, List.take_append_drop]
  generalize cs.toArray ++ Builtin.zeroCells (Value.int .u8 0).cells (l + n - c) ++ Builtin.zeroCells (Value.int .u8 0).cells (G - (l + n)) = Rw at *
  have HR := hidden R
  have hG63 : G ≤ 9223372036854775807 := hGm
  have h2 : wrap64 ((c : Int) - (l : Int)) = (c : Int) - (l : Int) := by unfold wrap64; omega
  have h3 : wrap64 ((n : Int) - ((c : Int) - (l : Int))) = (n : Int) - ((c : Int) - (l : Int)) := by unfold wrap64; omega
  have h4 : (n : Int) - ((c : Int) - (l : Int)) > 0 := by omega
  clear R h hold hcl hxs hGm hi hz0 hz1 hz2 hB
  go_enter Try.func27, Try.ntmps27
  rcases hform with ⟨rfl, rfl, rfl⟩ | ⟨g, rfl⟩
  · go_wp2_with (at_builtin; refine Lib.wpList_append_run _ rfl _ _ _ _ rfl _ _ rfl rfl _ _ (hrz _) ?_)
    all_goals (go_ret; exact HR.out)
  · go_wp2_with (at_builtin; refine Lib.wpList_append_run _ rfl _ _ _ _ rfl _ _ rfl rfl _ _ (hrz _) ?_)
    all_goals (go_ret; exact HR.out)
theorem grow_calls {B : Nat} {w : World} {a : Option Addr} {l c n : Nat} {xs : List Value} (h : w.ownsRow B 5 1 (.slice a l c) l xs) (hlc : l ≤ c) (hB : B ≤ w.heap.size) (hn2 : l + n ≤ 1073741824) :
    Calls Try.prog 27 #[.slice a l c, .int .i64 n] w fun e w' => Grown8 B w (.slice a l c) l n xs e w' := by
  by_cases hr : l + n ≤ c
  · exact grow_room h hr (by omega)
  · exact grow_grow h hlc hB (by omega) (by omega)

/-- a row that is being filled: k bytes c stand behind the text -/
def Filling (B o : Nat) (w : World) (g : Nat) (c' : Nat) (s : ByteArray) (n k : Nat) (c : Int) (r : Nat) (wr : World) : Prop :=
  (∃ zs : List Value, zs.length + k = n ∧ wr.ownsRow B 5 1 (.slice (some ⟨g, 0, none⟩) (s.size + n) c') (s.size + n) (strCells s ++ List.replicate k (.int .u8 c) ++ zs)) ∧
    wr.heap[o]? = some (.cells #[.slice (some ⟨g, 0, none⟩) (s.size + n) c', .int .i64 r] 56 (0, 0)) ∧ B ≤ wr.heap.size ∧ Save B o w wr
theorem Filling.more {B o : Nat} {w : World} {g c' : Nat} {s : ByteArray} {n k : Nat} {c : Int} {r : Nat} {wr : World} (h : Filling B o w g c' s n k c r wr) (hk : k < n) :
    Filling B o w g c' s n (k + 1) c r (wr.setCell ⟨g, s.size + k, none⟩ (.int .u8 c)) ∧ (∃ u, wr.cell? ⟨g, s.size + k, none⟩ = some u) ∧ wr.frozen? ⟨g, s.size + k, none⟩ = false := by
  obtain ⟨⟨zs, hz, hown⟩, ho, hB, hS⟩ := h
  obtain ⟨z, zs, rfl⟩ : ∃ z z', zs = z :: z' := by
    cases zs with
    | nil => simp at hz; omega
    | cons z z' => exact ⟨_, _, rfl⟩
  have hst := hown.stored (s.size + k) (.int .u8 c)
  have hlen : (strCells s ++ List.replicate k (Value.int .u8 c)).length = s.size + k := by simp [strCells_length]
  have e1 : (strCells s ++ List.replicate k (Value.int .u8 c) ++ z :: zs).set (s.size + k) (.int .u8 c) = strCells s ++ List.replicate (k + 1) (.int .u8 c) ++ zs := by
    rw [← hlen, List.set_append_right _ _ (Nat.le_refl _), Nat.sub_self, List.set_cons_zero, List.replicate_succ']
    simp
  rw [e1] at hst
  have hne : o ≠ g := by
    intro e
    have := row_ne hown ho
    exact this (by rw [e]; rfl)
  refine ⟨⟨⟨zs, by simp at hz; omega, hst.1⟩, ?_, ?_, hS.trans ⟨rfl, rfl, rfl, by simp [World.setCell], fun b hb => ?_⟩⟩, ?_, hown.frozenAt _⟩
  · rw [heap_setCell_other _ _ _ _ hne]
    exact ho
  · simpa [World.setCell] using hB
  · refine heap_setCell_other _ _ _ _ fun e => ?_
    have e : b = g := e
    subst e
    rcases hown.2 with ⟨hv, _⟩ | ⟨g', cap, cur, hv, hbg, hg, _⟩
    · cases hv
    · cases hv
      rcases hb.2.2 with h3 | h3
      · omega
      · exact h3 _ _ hg
  · rw [hown.cellAt _ (by omega), List.getElem?_append_right (by omega)]
    simp [hlen]
theorem Filling.done {B o : Nat} {w : World} {g c' : Nat} {s : ByteArray} {n : Nat} {c : Int} {r : Nat} {wr : World} (h : Filling B o w g c' s n n c r wr) (hc : 0 ≤ c ∧ c ≤ 255) (hr : s.size + n ≤ r) (htop : r ≤ 1073741824) : Turns B o w (s ++ rep n c) r wr := by
  obtain ⟨⟨zs, hz, hown⟩, ho, hB, hS⟩ := h
  have hz0 : zs = [] := List.eq_nil_of_length_eq_zero (by omega)
  subst hz0
  have hsz : (s ++ rep n c).size = s.size + n := by rw [ByteArray.size_append, rep_size]
  refine ⟨⟨_, ho, ?_, hB, by omega, htop⟩, hS⟩
  rw [hsz, strCells_add, strCells_rep n c hc]
  simpa using hown
theorem fill_none {w : World} {B o : Nat} {s : ByteArray} {r : Nat} {v : Value} (h : OutAt w B o s r v) (c : Int) :
    Calls Try.prog 23 #[.pointer (some ⟨o, 0, none⟩), .int .i64 0, .int .u8 c] w fun e w' => e = .returned (.tuple #[]) ∧ Turns B o w s r w' := by
  have hle := h.le
  have htop := h.top
  have HS := hidden (size_calls h)
  obtain ⟨a, c0, rfl, hc1, hc2⟩ := h.form
  have HG := hidden (grow_room (n := 0) h.own hc1 (by omega))
  have h0 := h.cell0
  have hf := h.frozen0
  have H := hidden h
  rw [show maxLen = 9223372036854775807 from rfl] at hc2
  clear h
  go_enter Try.func23, Try.ntmps23
  go_wp2_with fail
  refine HS.out.mono ?_
  rintro e w' ⟨rfl, rfl⟩
  go_wp2_with fail
  refine HG.out.mono ?_
  rintro e w1 ⟨a1, c1, ys, rfl, hc3, hc4, hys, hown, hg⟩
  have hys0 : ys = [] := List.eq_nil_of_length_eq_zero hys
  subst hys0
  rw [List.append_nil, Nat.add_zero] at hown
  have T := hidden (H.out.turned hg hown H.out.le)
  have hb1 : w1.heap[o]? = w.heap[o]? := hg.block o H.out.lt (fun e => row_ne H.out.own H.out.blk e.symm)
  have hf : w1.frozen? ⟨o, 0, none⟩ = false := frozen_of_row w1 o 0 _ _ (hb1.trans H.out.blk)
  have hc : w1.cell? ⟨o, 0, none⟩ = some (.slice a s.size c0) := cell_of_row w1 o 0 _ _ _ (hb1.trans H.out.blk)
  have T0 := T.out.1.cell0
  rw [show maxLen = 9223372036854775807 from rfl] at hc4
  clear hown hg hb1 hys
  go_wp2
  all_goals
    refine wp_loop_rounds 1 ?_
    rw [rounds_succ]
    go_wp2
    go_end0
    first
      | exact ⟨rfl, ⟨_, T.out.1⟩, T.out.2⟩
      | (have h2 := T.out; rw [‹c1 = s.size›] at h2; exact ⟨rfl, ⟨_, h2.1⟩, h2.2⟩)
set_option maxRecDepth 100000 in
theorem fill_some {w : World} {B o : Nat} {s : ByteArray} {r : Nat} {v : Value} (h : OutAt w B o s r v) (n : Nat) (hn0 : 0 < n) (c : Int) (hc : 0 ≤ c ∧ c ≤ 255) (hn : s.size + n ≤ r) :
    Calls Try.prog 23 #[.pointer (some ⟨o, 0, none⟩), .int .i64 n, .int .u8 c] w fun e w' => e = .returned (.tuple #[]) ∧ Turns B o w (s ++ rep n c) r w' := by
  have hle := h.le
  have htop := h.top
  have HS := hidden (size_calls h)
  obtain ⟨a, c0, rfl, hc1, hc2⟩ := h.form
  have HG := hidden (grow_calls (n := n) h.own hc1 h.low (by omega))
  have h0 := h.cell0
  have hf := h.frozen0
  have H := hidden h
  rw [show maxLen = 9223372036854775807 from rfl] at hc2
  clear h
  go_enter Try.func23, Try.ntmps23
  go_wp2_with fail
  refine HS.out.mono ?_
  rintro e w' ⟨rfl, rfl⟩
  go_wp2_with fail
  refine HG.out.mono ?_
  rintro e w1 ⟨a1, c1, ys, rfl, hc3, hc4, hys, hown, hg⟩
  obtain ⟨g, rfl⟩ : ∃ g, a1 = some ⟨g, 0, none⟩ := by
    rcases hown.2 with ⟨hv, h0⟩ | ⟨g, cap, cur, hv, _⟩
    · omega
    · exact ⟨g, by injection hv⟩
  have hb1 : w1.heap[o]? = w.heap[o]? := hg.block o H.out.lt (fun e => row_ne H.out.own H.out.blk e.symm)
  have hf : w1.frozen? ⟨o, 0, none⟩ = false := frozen_of_row w1 o 0 _ _ (hb1.trans H.out.blk)
  have hcl : w1.cell? ⟨o, 0, none⟩ = some (.slice a s.size c0) := cell_of_row w1 o 0 _ _ _ (hb1.trans H.out.blk)
  have hne := row_ne hown (hb1.trans H.out.blk)
  have F : Filling B o w g c1 s n 0 c r (w1.setCell ⟨o, 0, none⟩ (.slice (some ⟨g, 0, none⟩) (s.size + n) c1)) := by
    refine ⟨⟨ys, by omega, ownsRow_setCell_other (by simpa using hown) hne _⟩, heap_setCell_same w1 o 0 _ _ _ (hb1.trans H.out.blk), ?_, ⟨hg.os, hg.tape, hg.output, ?_, fun k hk => ?_⟩⟩
    · have := H.out.low
      have := hg.size
      simp [World.setCell]
      omega
    · have := hg.size
      simp [World.setCell]
      omega
    · rw [heap_setCell_other _ _ _ _ hk.2.1]
      refine hg.block k hk.1 fun e => ?_
      rcases H.out.own.2 with ⟨hv, _⟩ | ⟨g', cap, cur, hv, hbg, hg', _⟩
      · rw [hv] at e
        simp [Value.ownBlock] at e
      · rw [hv] at e
        simp only [Value.ownBlock, Option.some.injEq] at e
        subst e
        rcases hk.2.2 with h3 | h3
        · omega
        · exact h3 _ _ hg'
  have T0 : (w1.setCell ⟨o, 0, none⟩ (.slice (some ⟨g, 0, none⟩) (s.size + n) c1)).cell? ⟨o, 0, none⟩ = some (.slice (some ⟨g, 0, none⟩) (s.size + n) c1) := cell_of_row _ o 0 _ _ _ F.2.1
  have HF := hidden F
  rw [show maxLen = 9223372036854775807 from rfl] at hc4
  have hcc : ¬ (c1 = s.size) := by omega
  clear hown hg hb1 hys hne F
  go_wp2
  go_loopw [32] (fun i wr => ∃ k : Nat, k ≤ n ∧ i = .int .i64 k ∧ Filling B o w g c1 s n k c r wr) (fun i _ => n - (intOf i).toNat)
  case atStart => exact ⟨0, by omega, rfl, HF.out⟩
  case round =>
    obtain ⟨k, hk, rfl, hF⟩ := hrel
    have HF2 := hidden hF
    by_cases hlt : k < n
    · obtain ⟨hm, ⟨u, hu⟩, hfr⟩ := hF.more hlt
      have HM := hidden hm
      have hlk : decide ((k : Int) < n) = true := by simp; omega
      clear hm hF
      go_wp2
      go_roundw
      case rel => exact ⟨k + 1, by omega, by go_num, HM.out⟩
      case measure => simp [intOf]; omega
    · have hlk : decide ((k : Int) < n) = false := by simp; omega
      clear hF
      go_wp2
      go_end0
      obtain rfl : k = n := by omega
      exact ⟨rfl, HF2.out.done hc hn htop⟩

theorem pad_none (n c : Int) (w : World) : Calls Try.prog 12 #[.pointer none, .int .i64 n, .int .u8 c] w fun e w' => e = .returned (.int .i64 24) ∧ w = w' := by
  go_enter Try.func12, Try.ntmps12
  go_wp2
  go_ret
  exact ⟨rfl, rfl⟩
theorem pad_low {w : World} {B o : Nat} {s : ByteArray} {r : Nat} {v : Value} (h : OutAt w B o s r v) (n c : Int) (hn : n < 0) :
    Calls Try.prog 12 #[.pointer (some ⟨o, 0, none⟩), .int .i64 n, .int .u8 c] w fun e w' => e = .returned (.int .i64 2) ∧ Turns B o w s r w' := by
  have H := hidden (Turns.keeps h)
  have hd : decide (n < 0) = true := by simp; omega
  clear h
  go_enter Try.func12, Try.ntmps12
  go_wp2
  go_ret
  exact ⟨rfl, H.out⟩
theorem pad_high {w : World} {B o : Nat} {s : ByteArray} {r : Nat} {v : Value} (h : OutAt w B o s r v) (n c : Int) (hn : (r : Int) < s.size + n) :
    Calls Try.prog 12 #[.pointer (some ⟨o, 0, none⟩), .int .i64 n, .int .u8 c] w fun e w' => e = .returned (.int .i64 6) ∧ Turns B o w s r w' := by
  obtain ⟨m, hm⟩ : ∃ m, s.size + m = r := ⟨r - s.size, by have := h.le; omega⟩
  have HL := hidden (left_nat h m hm)
  have H := hidden h
  have hd : decide (n < 0) = false := by simp; omega
  have hd2 : decide ((m : Int) < n) = true := by simp; omega
  clear h
  go_enter Try.func12, Try.ntmps12
  go_wp2_with fail
  refine HL.out.mono ?_
  rintro e w1 ⟨rfl, hb1⟩
  have T := hidden (Turns.after (Save.of_below hb1) (Turns.keeps (H.out.below hb1)))
  clear hb1
  go_wp2
  go_ret
  exact ⟨rfl, T.out⟩
theorem rep_zero (c : Int) : rep 0 c = ByteArray.empty := rfl
theorem pad_calls {w : World} {B o : Nat} {s : ByteArray} {r : Nat} {v : Value} (h : OutAt w B o s r v) (n : Nat) (c : Int) (hc : 0 ≤ c ∧ c ≤ 255) (hn : s.size + n ≤ r) :
    Calls Try.prog 12 #[.pointer (some ⟨o, 0, none⟩), .int .i64 n, .int .u8 c] w fun e w' => e = .returned (.int .i64 0) ∧ Turns B o w (s ++ rep n c) r w' := by
  obtain ⟨m, hm⟩ : ∃ m, s.size + m = r := ⟨r - s.size, by have := h.le; omega⟩
  have HL := hidden (left_nat h m hm)
  have H := hidden h
  have hd : decide ((n : Int) < 0) = false := by simp
  have hd2 : decide ((m : Int) < n) = false := by simp; omega
  have HF : Hid (∀ w1, OutAt w1 B o s r v → Calls Try.prog 23 #[.pointer (some ⟨o, 0, none⟩), .int .i64 n, .int .u8 c] w1 fun e w' => e = .returned (.tuple #[]) ∧ Turns B o w1 (s ++ rep n c) r w') := hidden fun w1 h1 => by
    by_cases h0 : n = 0
    · subst h0
      rw [rep_zero, bytes_nil]
      exact fill_none h1 c
    · exact fill_some h1 n (by omega) c hc hn
  clear h hc
  go_enter Try.func12, Try.ntmps12
  go_wp2_with fail
  refine HL.out.mono ?_
  rintro e w1 ⟨rfl, hb1⟩
  have HF1 := hidden (HF.out w1 (H.out.below hb1))
  have S1 := hidden (Save.of_below (B := B) (o := o) hb1)
  clear hb1
  go_wp2_with fail
  refine HF1.out.mono ?_
  rintro e w2 ⟨rfl, ht⟩
  have T := hidden (Turns.after S1.out ht)
  clear ht
  go_wp2
  go_ret
  exact ⟨rfl, T.out⟩
end Go.Proofs.Ytcfedekcbbalcaa
