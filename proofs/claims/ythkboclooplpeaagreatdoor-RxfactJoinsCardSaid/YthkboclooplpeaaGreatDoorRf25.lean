/- SetList, FaNet, put together. -/
import Derived.Test.YthkboclooplpeaaGreatDoorRf24
import Derived.Laws.MakeOwn
import Derived.Test.YthkboclooplpeaaGreatDoorRf21
/- Contract of the program's list of a set's bytes. -/
namespace Go.Proofs.YthkboclooplpeaaGreatDoor
open Go.RowKit

theorem grown_below {w w' : World} (h : w.grownBy w' none) : Below w.heap.size w w' := ⟨h.os, h.tape, h.output, h.size, fun k hk => h.block k hk (by simp)⟩
theorem and_pred (x : Nat) (h : x < 18446744073709551616) : bits .and .u64 (x : Int) (IntKind.u64.wrap ((x : Int) - 1)) = ((x &&& (x - 1) : Nat) : Int) := by
  by_cases h0 : x = 0
  · subst h0
    decide
  · have e : IntKind.u64.wrap ((x : Int) - 1) = ((x - 1 : Nat) : Int) := by rw [IntKind.wrap_u64]; omega
    rw [e, u64_and_nat x _ h (by omega)]
/-- the bytes of the first k words -/
def upWords (f : Nat → Bool) : Nat → List Nat
  | 0 => []
  | k + 1 => upWords f k ++ bitsOf k (word f k)
theorem upWords_len (f : Nat → Bool) : ∀ k, (upWords f k).length ≤ 64 * k
  | 0 => by simp [upWords]
  | k + 1 => by
    have := upWords_len f k
    have h := bitsOf_length k (word f k)
    have h2 := pop_le 64 (word f k)
    rw [upWords, List.length_append]
    omega
theorem upWords_four (f : Nat → Bool) : upWords f 4 = elems f := by
  rw [elems_words]
  simp [upWords]
def Got (L : List Nat) (base : Nat) (v : Value) (w : World) : Prop := w.ownsRow base 5 1 v L.length (L.map byteV)
theorem got_more {L : List Nat} {m base : Nat} {v : Value} {w : World} (hw : w.ownsRow base 5 1 v (L.length + 1) (L.map byteV ++ [.int .u8 m])) : Got (L ++ [m]) base v w := by
  unfold Got
  simpa [byteV] using hw

theorem Tab.grown {w w' : World} {base : Nat} {e : TypeId} {size : Nat} {v : Value} {n : Nat} {xs : List Value} (h : Tab w) (hown : w.ownsRow base e size v n xs) (hg : w.grownBy w' v.ownBlock) (hB : 0 < base) : Tab w' := fun j hj =>
  (World.cell?_of_block (hg.block _ (cell_lt (h j hj)) fun e => by have h2 := (hown.lt _ e.symm).1; exact absurd h2 (Nat.not_le.2 hB))).trans (h j hj)

set_option maxRecDepth 100000 in
theorem bytes_calls (f : Nat → Bool) (w : World) (ht : Tab w) :
    Calls Tryz.prog 106 #[(.agg #[.int .u64 (word (f) 0), .int .u64 (word (f) 1), .int .u64 (word (f) 2), .int .u64 (word (f) 3)])] w (RetRow (w.heap.size + 1) 5 1 (elems f).length ((elems f).map byteV) w) := by
  have HC := hidden (count_calls f (w.alloc (.cells #[.int .u64 (word (f) 0), .int .u64 (word (f) 1), .int .u64 (word (f) 2), .int .u64 (word (f) 3)] 33)))
  obtain ⟨i0, hi, hz0, hz1, hz2⟩ := info_parts infoByte
  have HI := hidden hi
  have HZ := hidden (And.intro hz0 (And.intro hz1 hz2))
  have hle := elems_le f
  have HT := hidden (ht.below ((Below.refl w.heap.size w).alloc (Nat.le_refl _) (.cells #[.int .u64 (word (f) 0), .int .u64 (word (f) 1), .int .u64 (word (f) 2), .int .u64 (word (f) 3)] 33)))
  have HL := hidden (fun i => word_lt f i)
  have htl := cell_lt (ht 0 (by decide))
  clear hi hz0 hz1 hz2 ht
  go_enter Tryz.func106, Tryz.ntmps106
  go_wp2_with fail
  refine HC.out.mono ?_
  rintro e w1 ⟨rfl, hb1⟩
  rw [count_words f]
  have hsz := hb1.size
  simp at hsz
  go_wp2_with (at_make; refine wpList_make_own _ rfl _ _ 119 rfl (w.heap.size + 1) 5 i0 (.int .u8 0) 1 Tryz.underlying119 HI.out HZ.out.1 HZ.out.2.1 _ _ _ (elems f).length rfl rfl (by omega) ?b2 ?b3 (by omega) ?_)
  case b2 => rw [HZ.out.2.2]; omega
  case b3 => unfold maxLen; omega
  intro w2 hown2 hgrow2
  have hb2 := hb1.trans ((grown_below hgrow2).mono (by simp; omega))
  have HB2 := hidden (below_then ((Below.refl w.heap.size w).alloc (Nat.le_refl _) (.cells #[.int .u64 (word (f) 0), .int .u64 (word (f) 1), .int .u64 (word (f) 2), .int .u64 (word (f) 3)] 33)) (by simp) hb2)
  have HS2 := hidden ((SetAt.new w f).below hb2)
  have HT2 := hidden (HT.out.below hb2)
  have HO2 := hidden hown2
  clear hown2 hgrow2 hb1 hb2
  go_wp2
  go_loopw [3, 4, 5, 9] (fun v _ _ i wr => ∃ k : Nat, k ≤ 4 ∧ i = .int .i64 k ∧ Got (upWords f k) (w.heap.size + 1) v wr ∧ SetAt wr w.heap.size f ∧ Tab wr ∧ Below w.heap.size w wr) (fun _ _ _ i _ => 4 - (intOf i).toNat)
  case atStart => exact ⟨0, by omega, rfl, HO2.out, HS2.out, HT2.out, HB2.out⟩
  case round =>
    obtain ⟨k, hk, rfl, hG, hS, hT, hb⟩ := hrel
    have l1 := hS.lt
    by_cases hlt : k < 4
    · obtain ⟨c0, c1, c2, c3, _, _, _, _⟩ := hS.facts
      have hx : wr.cell? ⟨w.heap.size, k, none⟩ = some (.int .u64 (word f k)) := by
        match k, hlt with
        | 0, _ => exact c0
        | 1, _ => exact c1
        | 2, _ => exact c2
        | 3, _ => exact c3
      have HS := hidden hS
      have HG := hidden hG
      have HTr := hidden hT
      have hd : decide ((k : Int) < 4) = true := by simp; omega
      clear c0 c1 c2 c3 hS hG hT
      go_wp2
      obtain ⟨wo, rfl⟩ : ∃ wo : World, wo = wr := ⟨_, rfl⟩
      go_loopw [3, 5] (fun v u wi => ∃ (x : Nat) (L : List Nat), u = .int .u64 x ∧ x < 18446744073709551616 ∧ L ++ bitsOf k x = upWords f (k + 1) ∧ Got L (w.heap.size + 1) v wi ∧ SetAt wi w.heap.size f ∧ Tab wi ∧ Below w.heap.size w wi) (fun _ u _ => (intOf u).toNat)
      case atStart => exact ⟨_, _, rfl, HL.out k, rfl, HG.out, HS.out, HTr.out, hb⟩
      case round =>
        obtain ⟨x, L, rfl, hxl, hL, hG1, hS1, hT1, hb1⟩ := hrel
        have HG1 := hidden hG1
        have HS1 := hidden hS1
        have HT1 := hidden hT1
        have HX := hidden hxl
        have HLL := hidden hL
        have l2 := hS1.lt
        have hLl : L.length ≤ 256 := by
          have h1 := upWords_len f (k + 1)
          rw [← hL, List.length_append] at h1
          omega
        by_cases hz : x = 0
        · subst hz
          clear hG1 hS1 hT1 hxl hL
          go_wp2
          refine ⟨⟨k + 1, by omega, by go_num, ?_, HS1.out, HT1.out, hb1⟩, by simp [intOf]; omega⟩
          have e := HLL.out
          rw [bitsOf_zero, List.append_nil] at e
          rw [← e]
          exact HG1.out
        · have hb64 := (ctz_bits x hz hxl).1
          have hst := bitsOf_step k x hz hxl
          have hnz : ((x : Int) != 0) = true := by simp; omega
          have hp := and_pred x hxl
          have hless := bits_less x hz
          have HZ0 := hidden hz
          have HST := hidden hst
          have HP := hidden hp
          have HLS := hidden hless
          clear hG1 hS1 hT1 hxl hL hz hst hp hless
          go_wp2_with fail
          refine (tz_calls x _ HX.out HZ0.out HT1.out).mono ?_
          rintro e w' ⟨rfl, rfl⟩
          generalize hc : Lib.ctz 64 x = c at *
          have HCT := hidden hc
          clear hc
          have hwr : IntKind.u8.wrap ((k : Int) * 64 + (c : Int)) = ((64 * k + c : Nat) : Int) := by rw [IntKind.wrap_u8]; omega
          go_wp2_with (at_builtin; refine wpList_append_own _ rfl _ _ 119 rfl (w.heap.size + 1) 5 i0 (.int .u8 0) 1 1 Tryz.underlying119 HI.out HZ.out.1 HZ.out.2.1 HZ.out.2.2 rfl (by decide) _ _ _ rfl (HG1.out.alloc _) ⟨wr.heap.size, 0, none⟩ 1 1 [.int .u8 ((64 * k + c : Nat) : Int)] rfl rfl ?c1 ?c2 ?c3 ?c4 ?c5 ?_)
          case c1 => exact fun j u hj => news_one hj
          case c2 => exact fun u hu => by simp at hu; subst hu; rfl
          case c3 => unfold maxLen; omega
          case c4 => omega
          case c5 => simp; omega
          intro v2 w3 hown3 hgrow3 _
          have HO := hidden (HG1.out.alloc (.cells #[.int .u8 ((64 * k + c : Nat) : Int)] 5))
          have HR := hidden hown3
          have HS3 := hidden ((HS1.out.alloc (.cells #[.int .u8 ((64 * k + c : Nat) : Int)] 5)).grown HO.out hgrow3 (Nat.lt_succ_self _))
          have HB3 := hidden (below_grown (hb1.alloc (by omega) (.cells #[.int .u8 ((64 * k + c : Nat) : Int)] 5)) HO.out hgrow3 (Nat.le_succ _) (by simp; omega))
          have HT3 := hidden ((HT1.out.below ((Below.refl wr.heap.size wr).alloc (Nat.le_refl _) (.cells #[.int .u8 ((64 * k + c : Nat) : Int)] 5))).grown HO.out hgrow3 (by omega))
          clear hown3 hgrow3
          go_wp2
          go_roundw
          case rel =>
            refine ⟨x &&& (x - 1), L ++ [64 * k + c], by rw [HP.out], Nat.lt_trans HLS.out HX.out, ?_, got_more (by simpa using HR.out), HS3.out, HT3.out, HB3.out⟩
            rw [← HLL.out, HST.out, List.append_assoc]
            rfl
          case measure =>
            rw [HP.out]
            exact HLS.out
    · have e : k = 4 := by omega
      subst e
      have HG := hidden hG
      clear hG hS
      go_wp2
      go_ret
      rw [upWords_four] at HG
      exact ⟨_, rfl, HG.out, hb⟩
end Go.Proofs.YthkboclooplpeaaGreatDoor

/- The net of places in memory: two rows of sets behind a pointer; what a call that turns it leaves; storing in the midst of a row. -/
namespace Go.Proofs.YthkboclooplpeaaGreatDoor
open Go.RowKit Go.Lib Go.Joins
def netC (f : Nat → Bool) : List Value := [.int .u64 (word (f) 0), .int .u64 (word (f) 1), .int .u64 (word (f) 2), .int .u64 (word (f) 3)]
theorem netC_length (f : Nat → Bool) : (netC f).length = 4 := rfl
/-- a block of sets from base on -/
def RowS (w : World) (base k : Nat) : Prop := base ≤ k ∧ ∃ cs fr, w.heap[k]? = some (.cells cs 33 fr)
/-- what a call leaves that may turn some blocks, and rows of sets from base on -/
structure Mv (X : Nat → Prop) (base : Nat) (w w' : World) : Prop where
  os : w'.os = w.os
  tape : w'.tape = w.tape
  output : w'.output = w.output
  size : w.heap.size ≤ w'.heap.size
  block : ∀ k, k < w.heap.size → ¬ X k → ¬ RowS w base k → w'.heap[k]? = w.heap[k]?
section
variable {X Y : Nat → Prop} {base : Nat} {w w' w'' : World}
theorem Mv.refl : Mv X base w w := ⟨rfl, rfl, rfl, Nat.le_refl _, fun _ _ _ _ => rfl⟩
theorem Mv.trans (h : Mv X base w w') (k : Mv X base w' w'') : Mv X base w w'' :=
  ⟨k.os.trans h.os, k.tape.trans h.tape, k.output.trans h.output, Nat.le_trans h.size k.size, fun i hi hx hr => by
    have e := h.block i hi hx hr
    exact (k.block i (Nat.lt_of_lt_of_le hi h.size) hx (fun ⟨h1, h2⟩ => hr ⟨h1, by rw [e] at h2; exact h2⟩)).trans e⟩
theorem Mv.mono (h : Mv X base w w') (hXY : ∀ k, X k → Y k) : Mv Y base w w' := ⟨h.os, h.tape, h.output, h.size, fun k hk hx hr => h.block k hk (fun hx' => hx (hXY k hx')) hr⟩
theorem Mv.of_below (h : Below w.heap.size w w') : Mv X base w w' := ⟨h.os, h.tape, h.output, h.size, fun k hk _ _ => h.block k hk⟩
theorem Mv.alloc (o : Obj) : Mv X base w (w.alloc o) := .of_below ((Below.refl _ _).alloc (Nat.le_refl _) o)
theorem Mv.drew : Mv X base w w.drew := .of_below (Below.refl _ _).drew
theorem Mv.grown {b : Nat} (h : w.grownBy w' (some b)) (hX : X b ∨ RowS w base b) : Mv X base w w' :=
  ⟨h.os, h.tape, h.output, h.size, fun k hk hx hr => h.block k hk (fun e => by cases e; rcases hX with h | h; exact hx h; exact hr h)⟩
theorem Mv.grown0 (h : w.grownBy w' none) : Mv X base w w' := .of_below (grown_below h)
/-- a block of the call's own: seen from before -/
theorem Mv.over {b : Nat} {w0 : World} (h0 : Mv X base w0 w) (hb : w0.heap.size ≤ b) (h : w.grownBy w' (some b)) : Mv X base w0 w' :=
  ⟨h.os.trans h0.os, h.tape.trans h0.tape, h.output.trans h0.output, Nat.le_trans h0.size h.size, fun k hk hx hr => (h.block k (Nat.lt_of_lt_of_le hk h0.size) (by simp only [ne_eq, Option.some.injEq]; omega)).trans (h0.block k hk hx hr)⟩
theorem Mv.below {B : Nat} {w0 : World} (h0 : Below B w0 w) (h : Mv X base w w') (hb : B ≤ base) (hB : B ≤ w.heap.size) (hX : ∀ k, X k → B ≤ k) : Below B w0 w' :=
  h0.trans ⟨h.os, h.tape, h.output, by have := h.size; omega, fun k hk => h.block k (by omega) (fun hx => by have := hX k hx; omega) (fun hr => by have := hr.1; omega)⟩
theorem Mv.stk {SE E : TypeId} {k B b0 g cap n : Nat} {xs : List Value} (h : Mv X base w w') (hs : StkA w SE E k B b0 g cap n xs) (h1 : ¬ X B) (h2 : ¬ X g) (h3 : SE ≠ 33) (h4 : E ≠ 33) : StkA w' SE E k B b0 g cap n xs := by
  refine hs.kept (h.block B hs.lt h1 ?_) (h.block g hs.row.2.1 h2 ?_)
  · rintro ⟨_, cs, fr, e⟩
    have e2 : w.heap[B]? = some (.cells #[.slice (some ⟨g, 0, none⟩) n cap] SE (0, 0)) := hs.1
    rw [e2] at e
    simp only [Option.some.injEq, Obj.cells.injEq] at e
    exact h3 e.2.1
  · rintro ⟨_, cs, fr, e⟩
    rcases hs.2.2 with ⟨h, _⟩ | ⟨g', cap', cur, h, hb, hg, _⟩
    · cases h
    · simp only [Value.slice.injEq, Option.some.injEq, Addr.mk.injEq, and_true, true_and] at h
      obtain ⟨rfl, rfl⟩ := h
      rw [hg] at e
      simp only [Option.some.injEq, Obj.cells.injEq] at e
      exact h4 e.2.1
end
/-- block NB holds two rows of sets -/
structure NetV (w : World) (NB base : Nat) (vs vn : Value) (m : Nat) (S N : List Value) : Prop where
  obj : w.heap[NB]? = some (.cells #[vs, vn] 110 (0, 0))
  sets : w.ownsRow base 33 4 vs m S
  next : w.ownsRow base 33 4 vn m N
  apart : vs.ownBlock = none ∨ vs.ownBlock ≠ vn.ownBlock
/-- the net of places with these sets, and what may stand behind each -/
def NetAt (w : World) (NB base : Nat) (S : List (Nat → Bool)) (E : Nat → Nat → Bool) : Prop :=
  ∃ vs vn, NetV w NB base vs vn S.length (S.flatMap netC) (((List.range S.length).map E).flatMap netC)
section
variable {w w' : World} {NB base : Nat} {vs vn : Value} {m : Nat} {S N : List Value}
theorem NetV.below (h : NetV w NB base vs vn m S N) (hb : Below w.heap.size w w') : NetV w' NB base vs vn m S N :=
  ⟨(hb.block NB (Array.getElem?_eq_some_iff.1 h.obj).1).trans h.obj, row_below h.sets hb, row_below h.next hb, h.apart⟩
theorem NetV.lt (h : NetV w NB base vs vn m S N) : NB < w.heap.size := (Array.getElem?_eq_some_iff.1 h.obj).1
theorem NetAt.below {S : List (Nat → Bool)} {E : Nat → Nat → Bool} (h : NetAt w NB base S E) (hb : Below w.heap.size w w') : NetAt w' NB base S E := by
  obtain ⟨vs, vn, h⟩ := h
  exact ⟨vs, vn, h.below hb⟩
theorem NetAt.lt {S : List (Nat → Bool)} {E : Nat → Nat → Bool} (h : NetAt w NB base S E) : NB < w.heap.size := by
  obtain ⟨vs, vn, h⟩ := h
  exact h.lt
/-- what keeps the three blocks keeps it; a block that is none of them -/
theorem NetV.grown {b : Nat} (h : NetV w NB base vs vn m S N) (hg : w.grownBy w' (some b)) (h1 : NB ≠ b) (h2 : vs.ownBlock ≠ some b) (h3 : vn.ownBlock ≠ some b) : NetV w' NB base vs vn m S N :=
  ⟨(hg.block NB h.lt (by simpa using h1)).trans h.obj, h.sets.kept hg (.inr h2), h.next.kept hg (.inr h3), h.apart⟩
theorem NetV.cells (h : NetV w NB base vs vn m S N) : w.cell? ⟨NB, 0, none⟩ = some vs ∧ w.cell? ⟨NB, 1, none⟩ = some vn := ⟨cell_of_row w NB 0 _ _ _ h.obj, cell_of_row w NB 1 _ _ _ h.obj⟩
end
theorem word_same {f g : Nat → Bool} (h : ∀ n, n < 256 → f n = g n) : netC f = netC g := by
  unfold netC
  rw [word_congr (i := 0) (fun n hn => h _ (by omega)), word_congr (i := 1) (fun n hn => h _ (by omega)), word_congr (i := 2) (fun n hn => h _ (by omega)), word_congr (i := 3) (fun n hn => h _ (by omega))]
theorem flatMap_same {α : Type} (L : List α) {f g : α → List Value} (h : ∀ x ∈ L, f x = g x) : L.flatMap f = L.flatMap g := by
  rw [List.flatMap_def, List.flatMap_def, List.map_congr_left h]
theorem flat_same {S : List (Nat → Bool)} {E E' : Nat → Nat → Bool} (h : ∀ p, p < S.length → ∀ q, q < 256 → E p q = E' p q) : ((List.range S.length).map E).flatMap netC = ((List.range S.length).map E').flatMap netC := by
  simp only [List.flatMap_map]
  exact flatMap_same _ fun p hp => word_same (h p (List.mem_range.1 hp))
theorem NetAt.same {w : World} {NB base : Nat} {S : List (Nat → Bool)} {E E' : Nat → Nat → Bool} (h : NetAt w NB base S E) (he : ∀ p, p < S.length → ∀ q, q < 256 → E p q = E' p q) : NetAt w NB base S E' := by
  obtain ⟨vs, vn, h⟩ := h
  exact ⟨vs, vn, h.obj, h.sets, by rw [← flat_same he]; exact h.next, h.apart⟩
theorem flat_set {α : Type} (c : α → List Value) (k : Nat) (hc : ∀ x, (c x).length = k) (y : α) : ∀ (L : List α) (p : Nat), p < L.length → (L.flatMap c).take (p * k) ++ c y ++ (L.flatMap c).drop (p * k + k) = (L.set p y).flatMap c
  | [], p, h => by simp at h
  | x :: r, 0, h => by simp [hc x]
  | x :: r, p + 1, h => by
    have ih := flat_set c k hc y r p (by simpa using h)
    have e1 : (p + 1) * k = (c x).length + p * k := by rw [hc, Nat.add_mul]; omega
    have e2 : (p + 1) * k + k = (c x).length + (p * k + k) := by rw [e1]; omega
    rw [List.flatMap_cons, e2, List.drop_append, Nat.add_sub_cancel_left, e1, List.take_append, Nat.add_sub_cancel_left, List.take_of_length_le (by omega), List.drop_eq_nil_of_le (by omega), List.set_cons_succ, List.flatMap_cons, ← ih]
    simp
theorem range_set {α : Type} (m p : Nat) (g : Nat → α) (y : α) : ((List.range m).map g).set p y = (List.range m).map fun i => if i = p then y else g i := by
  apply List.ext_getElem?
  intro i
  rw [List.getElem?_set]
  by_cases h : p = i
  · subst h
    by_cases h2 : p < m
    · simp [h2]
    · simp [h2]
  · by_cases h2 : i < m
    · simp [h, h2, Ne.symm h]
    · simp [h, h2]
/-- a struct that is stored whole in the midst of a row -/
theorem store_at {ops : Array Oper} {rest : List Oper} {o : Oper} {a : Act} {w : World} {Q : Exit → Act → World → Prop} (hgd : o.guard = none) {ty : TypeId} {x y : Operand} (ho : o.op = .store ty x y)
    {g off : Nat} {cs cur : Array Value} {t : TypeId} (hx : a.eval x = .pointer (some ⟨g, off, none⟩)) (hy : a.eval y = .agg cs) (hg : w.heap[g]? = some (.cells cur t (0, 0))) (n : Nat) (hi : (Tryz.prog.info? ty).map (·.size) = some n)
    (hcs : cs.size = n) (hroom : off + n ≤ cur.size) (h1 : cs.all (·.oneCell') = true) (h : wpList Tryz.prog ops Q rest (a.put o.dst undef) (w.setRow g (cur.toList.take off ++ cs.toList ++ cur.toList.drop (off + n)).toArray)) : wpList Tryz.prog ops Q (o :: rest) a w := by
  refine wpList_plain hgd fun K hK => ?_
  have hr := run_storeCells_at (P := Tryz.prog) g off t cs.toList 0 cur w hg (by simp; omega) (fun v hv => (Array.all_eq_true_iff_forall_mem.1 h1) v (by simpa using hv))
  have hK' := hK _ _ h
  have hl : cs.toList.length = n := by simpa using hcs
  rw [hl, Nat.add_zero] at hr
  cases hq : Tryz.prog.info? ty with
  | none => simp [hq] at hi
  | some i =>
    have hs : i.size = n := by simpa [hq] using hi
    have hst : (storeVar ty ⟨g, off, none⟩ (.agg cs)).run Tryz.prog w = .ok () (w.setRow g (cur.toList.take off ++ cs.toList ++ cur.toList.drop (off + n)).toArray) := by
      simp [storeVar, sizeOf, typeInfo, hq, Value.cells, hs, hcs, hr]
    unfold Oper.wp execOp
    simp only [ho, hx, hy, Instr.storeAt, Instr.sureAddr, Sem.run_bind, Sem.run_pure, Result.andThen_ok, hst]
    exact hK'
/-- a row with one element turned -/
theorem row_turn {w : World} {base : Nat} {e : TypeId} {k g n cap : Nat} {xs : List Value} (h : w.ownsRow base e k (.slice (some ⟨g, 0, none⟩) n cap) n xs) (p : Nat) (hp : p < n) :
    ∃ cur, w.heap[g]? = some (.cells cur e (0, 0)) ∧ p * k + k ≤ cur.size ∧ ∀ cs : List Value, cs.length = k → (w.setRow g (cur.toList.take (p * k) ++ cs ++ cur.toList.drop (p * k + k)).toArray).ownsRow base e k (.slice (some ⟨g, 0, none⟩) n cap) n (xs.take (p * k) ++ cs ++ xs.drop (p * k + k)) := by
  obtain ⟨hl, h⟩ := h
  rcases h with ⟨h, _⟩ | ⟨g', cap', cur, h, hb, hg, hn, hm, hs, ht⟩
  · cases h
  · simp only [Value.slice.injEq, Option.some.injEq, Addr.mk.injEq, and_true, true_and] at h
    obtain ⟨rfl, rfl⟩ := h
    have h1 : p * k + k ≤ n * k := by
      have := Nat.mul_le_mul_right k (show p + 1 ≤ n by omega)
      rw [Nat.add_mul] at this
      omega
    have h2 : n * k ≤ cap * k := Nat.mul_le_mul_right k hn
    refine ⟨cur, hg, by omega, fun cs hcs => ⟨?_, .inr ⟨g, cap, _, rfl, hb, setRow_heap w g cur _ e _ hg, hn, hm, ?_, ?_⟩⟩⟩
    · simp only [List.length_append, List.length_take, List.length_drop]; omega
    · simp only [List.size_toArray, List.length_append, List.length_take, List.length_drop, Array.length_toList]; omega
    · have hcl : cur.toList.length = cap * k := by simpa using hs
      rw [List.append_assoc, List.append_assoc, List.take_append, List.take_append, ← ht]
      simp only [List.length_take, hcl]
      simp only [List.take_take, List.drop_take, hcs]
      rw [show min (n * k) (p * k) = p * k by omega, show min (p * k) (cap * k) = p * k by omega, show min (p * k) (n * k) = p * k by omega, List.take_of_length_le (l := cs) (by omega)]
      simp only [List.append_cancel_left_eq]
      rw [show n * k - p * k - k = n * k - (p * k + k) by omega]
end Go.Proofs.YthkboclooplpeaaGreatDoor
