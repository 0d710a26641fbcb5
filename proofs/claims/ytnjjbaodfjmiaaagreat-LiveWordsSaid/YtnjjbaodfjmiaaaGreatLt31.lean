/- LvRow, LvWd, LvWait, LvLst, put together. -/
import Derived.Test.YtnjjbaodfjmiaaaGreatLt26
import Derived.Test.YtnjjbaodfjmiaaaGreatLt30
import Derived.Laws.MakeOwn
import Derived.RangeFuncBox
import Derived.Test.YtnjjbaodfjmiaaaGreatLt29
import Derived.Test.YtnjjbaodfjmiaaaGreatLt02
import Derived.Laws.CopyOwn
import Derived.WalkMore
import Derived.Deep.LoopGhost
import Derived.StillTailTactics
import Derived.Test.YtnjjbaodfjmiaaaGreatLt28
/- Rows of fixed length in memory, by lists; slices of truths, as they are handed out; the reference's SameBools. -/
namespace Go.Proofs.YtnjjbaodfjmiaaaGreat
open Go.RowKit

/-- block B holds just these -/
def RowAt {α : Type} (w : World) (B : Nat) (t : TypeId) (f : α → Value) (l : List α) : Prop := w.heap[B]? = some (.cells (l.map f).toArray t (0, 0))
section
variable {α : Type} {w w' : World} {B : Nat} {t : TypeId} {f : α → Value} {l : List α}
theorem RowAt.lt (h : RowAt w B t f l) : B < w.heap.size := (Array.getElem?_eq_some_iff.1 h).1
theorem RowAt.cell (h : RowAt w B t f l) {i : Nat} (hi : i < l.length) (d : α) : w.cell? ⟨B, i, none⟩ = some (f (l.getD i d)) := by
  refine (cell_of_row w B i _ _ _ h).trans ?_
  rw [List.getElem?_toArray, List.getElem?_map, List.getElem?_eq_getElem hi, List.getD_eq_getElem?_getD, List.getElem?_eq_getElem hi]
  rfl
theorem RowAt.frozen (h : RowAt w B t f l) (i : Nat) : w.frozen? ⟨B, i, none⟩ = false := frozen_of_row w B i _ _ h
theorem RowAt.under {n : Nat} (h : RowAt w B t f l) (hb : Below n w w') (hn : B < n) : RowAt w' B t f l := (hb.block B hn).trans h
theorem RowAt.below (h : RowAt w B t f l) (hb : Below w.heap.size w w') : RowAt w' B t f l := h.under hb h.lt
theorem RowAt.grown (h : RowAt w B t f l) {o : Option Nat} (hg : w.grownBy w' o) (ho : o ≠ some B) : RowAt w' B t f l := (hg.block B h.lt (Ne.symm ho)).trans h
theorem RowAt.alloc (h : RowAt w B t f l) (o : Obj) : RowAt (w.alloc o) B t f l := (heap_alloc_old w o h.lt).trans h
theorem RowAt.set (h : RowAt w B t f l) (i : Nat) (x : α) : RowAt (w.setCell ⟨B, i, none⟩ (f x)) B t f (l.set i x) := by
  unfold RowAt
  rw [heap_setCell_same _ _ _ _ _ _ h, List.setIfInBounds_toArray, List.map_set]
theorem RowAt.other (h : RowAt w B t f l) {C j : Nat} (u : Value) (hne : B ≠ C) : RowAt (w.setCell ⟨C, j, none⟩ u) B t f l := (heap_setCell_other _ _ _ _ hne).trans h
theorem RowAt.newAt {cur : Array Value} (hb : B = w.heap.size) (hc : cur = (l.map f).toArray) : RowAt (w.alloc (.cells cur t)) B t f l := by
  subst hb; subst hc
  exact heap_alloc_new w _
end
theorem madeOne (z : Value) (n : Nat) : madeCells #[z] n = (List.replicate n z).toArray := by
  rw [← Array.toList_inj]
  simpa using toList_madeCells_one z n
/-- a row of truths is made -/
theorem run_make_b (w : World) (n : Nat) (hn : n ≤ 100000) : (Instr.makeSlice 30 (.int .i64 (n : Int)) (.int .i64 (n : Int))).run Tryz.prog w = .ok (.slice (some ⟨w.heap.size, 0, none⟩) n n) (w.alloc (.cells ((List.replicate n false).map Value.bool).toArray 4)) := by
  obtain ⟨i0, hi, hz0, hz1, hz2⟩ := info_parts (show (Tryz.prog.info? 4).map (fun i => (i.zero, i.size, i.bytes)) = some (some (.bool false), 1, 1) by kernel_rfl)
  have := run_make (P := Tryz.prog) w 30 4 i0 _ Tryz.underlying30 hi hz0 .i64 .i64 (n : Int) (n : Int) (by omega) (by omega) (by rw [hz2]; omega) (by omega)
  rw [hz1, Nat.mul_one, Int.toNat_natCast] at this
  rw [this, show (Value.bool false).cells = #[.bool false] from rfl, madeOne, List.map_replicate]
/-- a row of numbers is made -/
theorem run_make_z (w : World) (n : Nat) (hn : n ≤ 100000) : (Instr.makeSlice 24 (.int .i64 (n : Int)) (.int .i64 (n : Int))).run Tryz.prog w = .ok (.slice (some ⟨w.heap.size, 0, none⟩) n n) (w.alloc (.cells ((List.replicate n (0 : Int)).map (Value.int .i64)).toArray 3)) := by
  obtain ⟨i0, hi, hz0, hz1, hz2⟩ := info_parts (show (Tryz.prog.info? 3).map (fun i => (i.zero, i.size, i.bytes)) = some (some (.int .i64 0), 1, 8) by kernel_rfl)
  have := run_make (P := Tryz.prog) w 24 3 i0 _ Tryz.underlying24 hi hz0 .i64 .i64 (n : Int) (n : Int) (by omega) (by omega) (by rw [hz2]; omega) (by omega)
  rw [hz1, Nat.mul_one, Int.toNat_natCast] at this
  rw [this, show (Value.int IntKind.i64 0).cells = #[.int .i64 0] from rfl, madeOne, List.map_replicate]
/-- a row is handed out as a slice of truths, of numbers -/
theorem RowAt.reads {w : World} {B : Nat} {l : List Bool} (h : RowAt w B 4 Value.bool l) (hl : l.length ≤ 100000) {n : Nat} (hn : n = l.length) : RdB w.heap.size w (.slice (some ⟨B, 0, none⟩) n n) l := by
  subst hn
  exact ⟨_, l.length, rfl, Nat.le_refl _, by unfold maxLen; omega, (fun e => by cases e), fun _ => ⟨B, 0, rfl, h.lt, fun i hi => by rw [Nat.zero_add]; exact h.cell hi false⟩⟩
theorem RowAt.readsZ {w : World} {B : Nat} {l : List Int} (h : RowAt w B 3 (Value.int .i64) l) (hl : l.length ≤ 100000) {n : Nat} (hn : n = l.length) : RdZ w.heap.size w (.slice (some ⟨B, 0, none⟩) n n) l := by
  subst hn
  exact ⟨_, l.length, rfl, Nat.le_refl _, by unfold maxLen; omega, (fun e => by cases e), fun _ => ⟨B, 0, rfl, h.lt, fun i hi => by rw [Nat.zero_add]; exact h.cell hi 0⟩⟩
/-- a slice of truths is handed out, in new memory -/
def RetBo (w : World) (l : List Bool) (e : Ending) (w' : World) : Prop := ∃ v, e = .returned v ∧ RdB w'.heap.size w' v l ∧ Below w.heap.size w w' ∧ ∀ k, v.ownBlock = some k → w.heap.size ≤ k
theorem own_at {b off n c : Nat} {m : Nat} (h : m ≤ b) : ∀ k, (Value.slice (some ⟨b, off, none⟩) n c).ownBlock = some k → m ≤ k := fun k hk => by
  simp only [Value.ownBlock, Option.some.injEq] at hk
  omega
theorem rdb_none {w : World} {a : Option Addr} (ha : a ≠ none) {B : Nat} : RdB B w (.slice a 0 0) [] := ⟨a, 0, rfl, Nat.le_refl _, by decide, (fun e => absurd e ha), fun h => absurd h (by simp)⟩
theorem rdb_nil {w : World} {B : Nat} : RdB B w (.slice none 0 0) [] := ⟨none, 0, rfl, Nat.le_refl _, by decide, (fun _ => rfl), fun h => absurd h (by simp)⟩
theorem getD_on (S : List Bool) (i : Nat) : S.getD i false = decide (On S i) := by
  by_cases h : On S i
  · rw [decide_eq_true h]
    exact h
  · rw [decide_eq_false h]
    cases e : S.getD i false with
    | false => rfl
    | true => exact absurd e h

def sameB (a b : List Bool) : Bool := decide (a = b)
theorem drop_eqB {l m : List Bool} (k : Nat) (hk : k < l.length) (hl : l.length = m.length) : (l.drop k = m.drop k) ↔ (l.getD k false = m.getD k false ∧ l.drop (k + 1) = m.drop (k + 1)) := by
  have hk2 : k < m.length := by omega
  rw [List.drop_eq_getElem_cons hk, List.drop_eq_getElem_cons hk2, List.cons.injEq, List.getD_eq_getElem?_getD, List.getD_eq_getElem?_getD, List.getElem?_eq_getElem hk, List.getElem?_eq_getElem hk2]
  rfl
set_option maxHeartbeats 2000000 in
set_option maxRecDepth 100000 in
theorem sameBools_calls {B : Nat} {va vb : Value} {l m : List Bool} {w : World} (ha : RdB B w va l) (hb : RdB B w vb m) (hB : B ≤ w.heap.size) :
    Calls Tryz.prog 9 #[va, vb] w fun e w' => e = .returned (.bool (sameB l m)) ∧ Below w.heap.size w w' := by
  obtain ⟨a, ca, rfl⟩ := ha.form
  obtain ⟨b, cb, rfl⟩ := hb.form
  have HA := hidden (fun (w' : World) (h : Below w.heap.size w w') i hi => ha.at (h.mono hB) i hi)
  have HBB := hidden (fun (w' : World) (h : Below w.heap.size w w') i hi => hb.at (h.mono hB) i hi)
  have hla : l.length ≤ 9223372036854775807 := by
    obtain ⟨_, _, e, h1, h2, _⟩ := ha
    unfold maxLen at h2
    omega
  have HE := hidden (fun k hk hl => drop_eqB (l := l) (m := m) k hk hl)
  have HL0 := hidden (show (l.drop 0 = m.drop 0) ↔ l = m by simp)
  have HLN := hidden (show ∀ k, k = l.length → l.length = m.length → l.drop k = m.drop k from fun k hk e => by rw [List.drop_eq_nil_of_le (by omega), List.drop_eq_nil_of_le (by omega)])
  have HNE := hidden (show l.length ≠ m.length → l ≠ m from fun h e => h (by rw [e]))
  obtain ⟨na, hna⟩ : ∃ n, n = l.length := ⟨_, rfl⟩
  obtain ⟨nb, hnb⟩ : ∃ n, n = m.length := ⟨_, rfl⟩
  rw [← hna] at hla HA HE HLN HNE ⊢
  rw [← hnb] at HBB HE HLN HNE ⊢
  have HS := hidden (show sameB l m = decide (l = m) from rfl)
  clear hna hnb ha hb
  go_enter Tryz.func9, Tryz.ntmps9
  by_cases hn : na = nb
  · subst hn
    go_wp2
    go_loopw [5] (fun i wr => ∃ k : Nat, k ≤ na ∧ i = .int .i64 k ∧ Hid ((l.drop k = m.drop k) ↔ l = m) ∧ Below w.heap.size w wr) (fun i _ => na - (Go.RowKit.intOf i).toNat)
    case atStart => exact ⟨0, by omega, rfl, HL0, Below.refl _ _⟩
    case round =>
      obtain ⟨k, hk, rfl, hiff, hb⟩ := hrel
      have HB := hidden hb
      clear hb
      by_cases hlt : k < na
      · obtain ⟨b1, o1, rfl, _, c1⟩ := HA.out _ HB.out k hlt
        obtain ⟨b2, o2, rfl, _, c2⟩ := HBB.out _ HB.out k hlt
        have d1 := fun (p : Later wr) => Later.cell c1 (cell_lt c1) p
        have d2 := fun (p : Later wr) => Later.cell c2 (cell_lt c2) p
        have HK := hidden (HE.out k hlt trivial)
        obtain ⟨x, hx⟩ : ∃ x, x = l.getD k false := ⟨_, rfl⟩
        obtain ⟨y, hy⟩ : ∃ y, y = m.getD k false := ⟨_, rfl⟩
        rw [← hx] at d1 HK
        rw [← hy] at d2 HK
        clear c1 c2 hx hy
        go_wp2
        refine wp_region_later (by kernel_rfl) (by kernel_rfl) ?_
        repeat (go_big_quiet_step (fail))
        refine wpQuiet_nil ?_
        rintro _ ⟨⟨_, hb5⟩, rfl⟩
        rename_i w5
        have HB5 := hidden (below_then HB.out HB.out.size hb5)
        clear hb5 d1 d2
        by_cases hxy : x = y
        · subst hxy
          have HK2 := hidden (show (l.drop (k + 1) = m.drop (k + 1)) ↔ l = m from by rw [← hiff.out, HK.out]; simp)
          cases x <;> (go_wp2; refine ⟨⟨k + 1, by omega, by go_num, HK2, HB5.out⟩, by simp [Go.RowKit.intOf]; omega⟩)
        · have HF := hidden (show sameB l m = false by rw [HS.out]; refine decide_eq_false fun e => ?_; exact hxy ((HK.out.1 (hiff.out.2 e)).1))
          have hxyH := hidden hxy
          clear hxy
          cases x <;> cases y <;> first
            | exact absurd rfl hxyH.out
            | (go_wp2; go_ret; exact ⟨ret_b HF.out.symm, HB5.out⟩)
      · obtain rfl : k = na := by omega
        have HF := hidden (show sameB l m = true by rw [HS.out]; exact decide_eq_true (hiff.out.1 (HLN.out _ rfl trivial)))
        go_wp2
        go_ret
        exact ⟨ret_b HF.out.symm, HB.out⟩
  · have HF := hidden (show sameB l m = false by rw [HS.out]; exact decide_eq_false (HNE.out hn))
    have q1 : ((na : Int) == (nb : Int)) = false := by simp; omega
    have q2 : ((na : Int) != (nb : Int)) = true := by simp; omega
    have q3 : decide ((na : Int) = (nb : Int)) = false := by simp; omega
    have hnH := hidden hn
    clear hn
    go_wp2
    go_ret
    exact ⟨ret_b HF.out.symm, Below.refl _ _⟩
end Go.Proofs.YtnjjbaodfjmiaaaGreat

/- Words in memory: the bytes of another word, and own ones behind them; the word with a byte more. -/
namespace Go.Proofs.YtnjjbaodfjmiaaaGreat
open Go.RowKit Go.Lib Go.Joins

/-- blocks of words, and of bytes, stay -/
structure KeepW (w w' : World) : Prop where
  size : w.heap.size ≤ w'.heap.size
  block : ∀ (k : Nat) (cs : Array Value) (t : TypeId) (fr : Nat × Nat), w.heap[k]? = some (.cells cs t fr) → (t = 52 ∨ t = 5) → w'.heap[k]? = w.heap[k]?
theorem KeepW.refl (w : World) : KeepW w w := ⟨Nat.le_refl _, fun _ _ _ _ _ _ => rfl⟩
theorem KeepW.trans {a b c : World} (h : KeepW a b) (k : KeepW b c) : KeepW a c := ⟨Nat.le_trans h.size k.size, fun i cs t fr hi ht => (k.block i cs t fr ((h.block i cs t fr hi ht).trans hi) ht).trans (h.block i cs t fr hi ht)⟩
theorem KeepW.of_below {w w' : World} (h : Below w.heap.size w w') : KeepW w w' := ⟨h.size, fun k _ _ _ hk _ => h.block k (Array.getElem?_eq_some_iff.1 hk).1⟩
theorem KeepW.alloc (w : World) (o : Obj) : KeepW w (w.alloc o) := .of_below ((Below.refl _ _).alloc (Nat.le_refl _) o)
theorem KeepW.drew (w : World) : KeepW w w.drew := ⟨Nat.le_refl _, fun _ _ _ _ _ _ => rfl⟩
/-- one block of another type is turned -/
theorem KeepW.grown {w w' : World} {o : Option Nat} (hg : w.grownBy w' o) (ho : ∀ k, o = some k → ∀ cs t fr, w.heap[k]? = some (.cells cs t fr) → t ≠ 52 ∧ t ≠ 5) : KeepW w w' :=
  ⟨hg.size, fun k cs t fr hk ht => hg.block k (Array.getElem?_eq_some_iff.1 hk).1 fun e => by
    obtain ⟨h1, h2⟩ := ho k e.symm cs t fr hk
    rcases ht with h | h
    · exact h1 h
    · exact h2 h⟩
/-- slice v reads as these bytes -/
def BytesAt (w : World) (v : Value) (p : List Nat) : Prop := ∃ a cap, v = .slice a p.length cap ∧ p.length ≤ cap ∧ cap ≤ maxLen ∧ (a = none → cap = 0) ∧ (0 < p.length → ∃ b off, a = some ⟨b, off, none⟩ ∧ (∃ cs fr, w.heap[b]? = some (.cells cs 5 fr)) ∧ ∀ i, i < p.length → w.cell? ⟨b, off + i, none⟩ = some (.int .u8 (p.getD i 0 : Nat)))
theorem BytesAt.mono {w w' : World} {v : Value} {p : List Nat} (h : BytesAt w v p) (hk : KeepW w w') : BytesAt w' v p := by
  obtain ⟨a, c, rfl, h1, h2, h3, h4⟩ := h
  refine ⟨a, c, rfl, h1, h2, h3, fun hp => ?_⟩
  obtain ⟨b, off, rfl, ⟨cs, fr, hb⟩, hc⟩ := h4 hp
  have hbl := hk.block b cs _ fr hb (.inr rfl)
  exact ⟨b, off, rfl, ⟨cs, fr, hbl.trans hb⟩, fun i hi => (World.cell?_of_block (a := ⟨b, off + i, none⟩) hbl).trans (hc i hi)⟩
theorem BytesAt.form {w : World} {v : Value} {p : List Nat} (h : BytesAt w v p) : ∃ a c, v = .slice a p.length c := by
  obtain ⟨a, c, rfl, _⟩ := h
  exact ⟨a, c, rfl⟩
theorem BytesAt.nil (w : World) : BytesAt w (.slice none 0 0) [] := ⟨none, 0, rfl, Nat.le_refl _, by decide, fun _ => rfl, fun h => absurd h (Nat.lt_irrefl 0)⟩
theorem BytesAt.at {w : World} {a : Option Addr} {n c : Nat} {p : List Nat} (h : BytesAt w (.slice a n c) p) (i : Nat) (hi : i < p.length) : ∃ b off, a = some ⟨b, off, none⟩ ∧ b < w.heap.size ∧ w.cell? ⟨b, off + i, none⟩ = some (.int .u8 (p.getD i 0 : Nat)) := by
  obtain ⟨a', c', e, _, _, _, h4⟩ := h
  simp only [Value.slice.injEq] at e
  obtain ⟨rfl, _, _⟩ := e
  obtain ⟨b, off, e, ⟨cs, fr, hb⟩, hc⟩ := h4 (by omega)
  exact ⟨b, off, e, (Array.getElem?_eq_some_iff.1 hb).1, hc i hi⟩
/-- the words ahead, the nearest first -/
def Chain (w : World) : Value → List (List Nat) → Prop
  | bv, [] => bv = .pointer none
  | bv, p :: ps => ∃ b bv' ov', bv = .pointer (some ⟨b, 0, none⟩) ∧ w.heap[b]? = some (.cells #[bv', ov'] 52 (0, 0)) ∧ BytesAt w ov' p ∧ Chain w bv' ps
theorem Chain.mono {w w' : World} (hk : KeepW w w') : ∀ {bv : Value} {ps : List (List Nat)}, Chain w bv ps → Chain w' bv ps
  | _, [], h => h
  | _, p :: ps, h => by
    obtain ⟨b, bv', ov', e, hb, h1, h2⟩ := h
    exact ⟨b, bv', ov', e, (hk.block b _ _ _ hb (.inl rfl)).trans hb, h1.mono hk, Chain.mono hk h2⟩
theorem Chain.form {w : World} {bv : Value} {ps : List (List Nat)} (h : Chain w bv ps) : ∃ x, bv = .pointer x := by
  cases ps with
  | nil => exact ⟨_, h⟩
  | cons p ps =>
    obtain ⟨b, _, _, e, _⟩ := h
    exact ⟨_, e⟩
/-- a word -/
def WordAt (w : World) (bv ov : Value) (u : List Nat) : Prop := ∃ p ps, BytesAt w ov p ∧ p.length ≤ 32 ∧ Chain w bv ps ∧ u = ps.reverse.flatten ++ p ∧ ps.length ≤ ps.flatten.length
theorem WordAt.mono {w w' : World} {bv ov : Value} {u : List Nat} (h : WordAt w bv ov u) (hk : KeepW w w') : WordAt w' bv ov u := by
  obtain ⟨p, ps, h1, h2, h3, h4⟩ := h
  exact ⟨p, ps, h1.mono hk, h2, h3.mono hk, h4⟩
theorem WordAt.nil (w : World) : WordAt w (.pointer none) (.slice none 0 0) [] := ⟨[], [], BytesAt.nil w, Nat.zero_le _, rfl, rfl, Nat.le_refl _⟩
theorem WordAt.form {w : World} {bv ov : Value} {u : List Nat} (h : WordAt w bv ov u) : ∃ x a n c, bv = .pointer x ∧ ov = .slice a n c := by
  obtain ⟨p, ps, h1, _, h3, _⟩ := h
  obtain ⟨x, rfl⟩ := h3.form
  obtain ⟨a, c, rfl⟩ := h1.form
  exact ⟨x, a, _, c, rfl, rfl⟩
theorem byteLit (b : Nat) (hb : b < 256) : IntKind.u8.wrap (b : Int) = b := by rw [IntKind.wrap_u8]; omega

def bV8 (n : Nat) : Value := .int .u8 (n : Nat)
/-- a row of bytes is made -/
theorem run_make_y (w : World) (n : Nat) (hn : n ≤ 100000) : (Instr.makeSlice 50 (.int .i64 ((n : Int) + 1)) (.int .i64 ((n : Int) + 1))).run Tryz.prog w = .ok (.slice (some ⟨w.heap.size, 0, none⟩) (n + 1) (n + 1)) (w.alloc (.cells ((List.replicate (n + 1) 0).map bV8).toArray 5)) := by
  obtain ⟨i0, hi, hz0, hz1, hz2⟩ := info_parts (show (Tryz.prog.info? 5).map (fun i => (i.zero, i.size, i.bytes)) = some (some (.int .u8 0), 1, 1) by kernel_rfl)
  have := run_make (P := Tryz.prog) w 50 5 i0 _ Tryz.underlying50 hi hz0 .i64 .i64 ((n : Int) + 1) ((n : Int) + 1) (by omega) (by omega) (by rw [hz2]; omega) (by omega)
  rw [hz1, Nat.mul_one, show ((n : Int) + 1).toNat = n + 1 by omega] at this
  rw [this, show (Value.int IntKind.u8 0).cells = #[.int .u8 0] from rfl, madeOne, List.map_replicate]
  rfl
theorem RowAt.bytes {w : World} {B : Nat} {l : List Nat} (h : RowAt w B 5 bV8 l) (hl : l.length ≤ 100000) {n : Nat} (hn : n = l.length) : BytesAt w (.slice (some ⟨B, 0, none⟩) n n) l := by
  subst hn
  exact ⟨_, l.length, rfl, Nat.le_refl _, by unfold maxLen; omega, (fun e => by cases e), fun _ => ⟨B, 0, rfl, ⟨_, _, h⟩, fun i hi => by rw [Nat.zero_add]; exact h.cell hi 0⟩⟩
theorem splice_bytes (p : List Nat) {n : Nat} (hn : n = p.length) : splice ((List.replicate (n + 1) 0).map bV8) 0 (p.map bV8) = (p ++ [0]).map bV8 := by
  subst hn
  unfold splice
  rw [List.take_zero, List.nil_append, Nat.zero_add, List.length_map, List.map_append, ← List.map_drop, List.drop_replicate]
  congr 2
  rw [show p.length + 1 - p.length = 1 by omega]
  rfl
theorem set_last {p : List Nat} {n : Nat} (hn : n = p.length) (b : Nat) : (p ++ [0]).set n b = p ++ [b] := by
  subst hn
  rw [List.set_append_right _ _ (Nat.le_refl _), Nat.sub_self]
  rfl
theorem word_full {w : World} {x a : Option Addr} {n c : Nat} {p : List Nat} {ps : List (List Nat)} (b : Nat) (A Bx : Obj) (hA : A = .cells #[.pointer x, .slice a n c] 52) (hp : BytesAt w (.slice a n c) p) (hc : Chain w (.pointer x) ps) (hp0 : 0 < p.length) (hps : ps.length ≤ ps.flatten.length) :
    WordAt ((((w.alloc A).alloc Bx).alloc A).alloc (.cells #[.int .u8 (b : Nat)] 5)) (.pointer (some ⟨w.heap.size + 1 + 1, 0, none⟩)) (.slice (some ⟨w.heap.size + 1 + 1 + 1, 0, none⟩) 1 1) (ps.reverse.flatten ++ p ++ [b]) := by
  have hb : Below w.heap.size w ((((w.alloc A).alloc Bx).alloc A).alloc (.cells #[.int .u8 (b : Nat)] 5)) :=
    ((((Below.refl w.heap.size w).alloc (Nat.le_refl _) _).alloc (by simp) _).alloc (by simp; omega) _).alloc (by simp; omega) _
  have hk := KeepW.of_below hb
  refine ⟨[b], p :: ps, ?_, by simp, ⟨_, _, _, rfl, ?_, hp.mono hk, hc.mono hk⟩, by simp, by rw [List.length_cons, List.flatten_cons, List.length_append]; omega⟩
  · have hr : RowAt ((((w.alloc A).alloc Bx).alloc A).alloc (.cells #[.int .u8 (b : Nat)] 5)) (w.heap.size + 1 + 1 + 1) 5 bV8 [b] := RowAt.newAt (by simp) rfl
    exact hr.bytes (by simp) rfl
  · refine (heap_alloc_old _ _ (by simp)).trans ?_
    have : w.heap.size + 1 + 1 = ((w.alloc A).alloc Bx).heap.size := by simp
    rw [this, ← hA]
    exact heap_alloc_new _ _
/-- the own bytes with one more, in a new row -/
theorem word_more {w w' : World} {x : Option Addr} {g n : Nat} {p : List Nat} {ps : List (List Nat)} (b : Nat) (hb : Below w.heap.size w w') (hr : RowAt w' g 5 bV8 (p ++ [b])) (hn : n = p.length) (hl : n < 32) (hc : Chain w (.pointer x) ps) (hps : ps.length ≤ ps.flatten.length) :
    WordAt w' (.pointer x) (.slice (some ⟨g, 0, none⟩) (n + 1) (n + 1)) (ps.reverse.flatten ++ p ++ [b]) := by
  refine ⟨p ++ [b], ps, hr.bytes (by simp; omega) (by simp [hn]), by simp; omega, hc.mono (KeepW.of_below hb), by simp, hps⟩
set_option maxHeartbeats 4000000 in
set_option maxRecDepth 100000 in
theorem wordWith_calls {w : World} {bv ov : Value} {u : List Nat} (b : Nat) (h : WordAt w bv ov u) :
    Calls Tryz.prog 55 #[.agg #[bv, ov], .int .u8 (b : Nat)] w fun e w' => (∃ bv' ov', e = .returned (.agg #[bv', ov']) ∧ WordAt w' bv' ov' (u ++ [b])) ∧ Below w.heap.size w w' := by
  obtain ⟨p, ps, hp, hpl, hch, rfl, hps⟩ := h
  have HPS := hidden hps
  clear hps
  obtain ⟨x, rfl⟩ := hch.form
  obtain ⟨a, c, rfl⟩ := hp.form
  have HP := hidden hp
  have HC := hidden hch
  obtain ⟨n, hn⟩ : ∃ n, n = p.length := ⟨_, rfl⟩
  rw [← hn] at HP hpl ⊢
  have HN := hidden hn
  clear hp hch hn
  obtain ⟨A, hA⟩ : ∃ A, A = (Obj.cells #[Value.pointer x, Value.slice a n c] 52 (0, 0)) := ⟨_, rfl⟩
  have HA := hidden hA
  have s1 : (w.alloc A).heap.size = w.heap.size + 1 := by simp
  clear hA
  go_enter Tryz.func55, Tryz.ntmps55
  by_cases h32 : n = 32
  · subst h32
    go_wp2
    rw [← HA.out]
    refine ret_two (x := .pointer (some ⟨w.heap.size + 1 + 1, 0, none⟩)) (y := .slice (some ⟨w.heap.size + 1 + 1 + 1, 0, none⟩) 1 1) Tryz.results55 rfl rfl ?_ Tryz.underlying52 (by kernel_rfl) ⟨⟨_, _, rfl, word_full b A _ HA.out HP.out HC.out (by have := HN.out; omega) HPS.out⟩, ?_⟩
    · refine (heap_alloc_old _ _ (by simp)).trans ((heap_alloc_old _ _ (by simp)).trans ?_)
      rw [← s1]
      exact heap_alloc_new _ _
    · exact (((((Below.refl w.heap.size w).alloc (Nat.le_refl _) _).alloc (by simp) _).alloc (by simp; omega) _).alloc (by simp; omega) _)
  · have q1 : ((n : Int) == 32) = false := by simp; omega
    have q2 : decide ((n : Int) = 32) = false := by simp; omega
    have hn2 : n < 32 := by omega
    have h32H := hidden h32
    clear h32
    have hm := run_make_y ((w.alloc A).alloc (.cells #[.pointer none, .slice none 0 0] 52)) n (by omega)
    have HCS := hidden (show ∀ j v, (p.map bV8)[j]? = some v → ∃ ad, a = some ad ∧ w.cell? (ad.add j) = some v from fun j v hv => by
      have hj : j < p.length := by
        have := (List.getElem?_eq_some_iff.1 hv).1
        simpa using this
      obtain ⟨b1, o1, rfl, _, hc1⟩ := HP.out.at j hj
      refine ⟨_, rfl, ?_⟩
      rw [List.getElem?_map, List.getElem?_eq_getElem hj] at hv
      rw [Addr.add_lit, hc1, getD_lt hj]
      exact hv)
    obtain ⟨CS, hCS⟩ : ∃ Z, Z = p.map bV8 := ⟨_, rfl⟩
    rw [← hCS] at HCS
    have HSRC := hidden (show 0 < CS.length → ∃ ad, a = some ad ∧ ∀ j v, CS[j]? = some v → (((w.alloc (.cells #[.pointer x, .slice a n c] 52)).alloc (.cells #[.pointer none, .slice none 0 0] 52)).alloc (.cells ((List.replicate (n + 1) 0).map bV8).toArray 5)).cell? (ad.add j) = some v from fun h0 => by
      obtain ⟨ad, e0, _⟩ := HCS.out 0 _ (List.getElem?_eq_getElem h0)
      refine ⟨ad, e0, fun j v hv => ?_⟩
      obtain ⟨ad2, e, hc2⟩ := HCS.out j v hv
      obtain rfl := Option.some.inj (e0.symm.trans e)
      have hlt : (ad.add j).block < w.heap.size := World.block_lt_of_cell? w _ hc2
      have hbb : Below w.heap.size w (((w.alloc (.cells #[.pointer x, .slice a n c] 52)).alloc (.cells #[.pointer none, .slice none 0 0] 52)).alloc (.cells ((List.replicate (n + 1) 0).map bV8).toArray 5)) := ((((Below.refl w.heap.size w).alloc (Nat.le_refl _) _).alloc (by simp) _).alloc (by simp; omega) _)
      exact (hbb.cell hlt).trans hc2)
    obtain ⟨Z, hZ⟩ : ∃ Z, Z = (List.replicate (n + 1) 0).map bV8 := ⟨_, rfl⟩
    have HZ := hidden hZ
    have HCSE := hidden hCS
    rw [← hZ] at hm HSRC
    have hcl : CS.length = n := by rw [hCS, List.length_map, ← HN.out]
    have HCL := hidden hcl
    have HZL := hidden (show Z.length = n + 1 by rw [hZ]; simp)
    rw [HA.out] at hm
    obtain ⟨W2, hW2⟩ : ∃ W2, W2 = (w.alloc (.cells #[.pointer x, .slice a n c] 52)).alloc (.cells #[.pointer none, .slice none 0 0] 52) := ⟨_, rfl⟩
    have s2 : W2.heap.size = w.heap.size + 1 + 1 := by rw [hW2]; simp
    have HB2 := hidden (show Below w.heap.size w W2 from by rw [hW2]; exact ((Below.refl w.heap.size w).alloc (Nat.le_refl _) _).alloc (by simp) _)
    have HT1 := hidden (show TwoAt 52 W2 w.heap.size (.pointer x) (.slice a n c) from by rw [hW2]; exact (TwoAt.new _ _ _ _).alloc _)
    have HT2 := hidden (show TwoAt 52 W2 (w.heap.size + 1) (.pointer none) (.slice none 0 0) from by rw [hW2]; exact TwoAt.made (by simp))
    have HW2 := hidden hW2
    have HS2 := hidden s2
    have HG := hidden (show (W2.alloc (.cells Z.toArray 5)).heap[w.heap.size + 1 + 1]? = some (.cells Z.toArray 5 (0, 0)) from by rw [← s2]; exact heap_alloc_new _ _)
    have HB3 := hidden (HB2.out.alloc HB2.out.size (.cells Z.toArray 5))
    rw [hW2] at HG HB3 HT1 HT2
    clear hZ hCS hcl hW2 s2
    go_wp2_with (refine wpList_copy_splice rfl (.tmp 20) (.tmp 22) 50 50 rfl 5 Tryz.underlying50 (by kernel_rfl) (some ⟨w.heap.size + 1 + 1, 0, none⟩) a (n + 1) (n + 1) n c rfl rfl (w.heap.size + 1 + 1) 0 Z 5 HG.out CS (by rw [HCL.out]; exact (Nat.min_eq_left (Nat.le_succ _)).symm) (fun hp0 => ⟨rfl, HSRC.out hp0⟩) (by have := HCL.out; have := HZL.out; omega) (by rw [HCSE.out]; intro v hv; obtain ⟨q, _, rfl⟩ := List.mem_map.1 hv; rfl) (w.heap.size + 1 + 1) _ (Below.refl _ _) (Nat.le_refl _) ?_; intro w4 hg4 hb4; have HR4 := hidden (show RowAt w4 (w.heap.size + 1 + 1) 5 bV8 (p ++ [0]) from by have h5 := hg4.out; rw [HZ.out, HCSE.out, splice_bytes p HN.out] at h5; exact h5); have f4 := HR4.out.frozen n; have d4 := HR4.out.cell (i := n) (by have := HN.out; simp; omega) 0; have HT4 := hidden ((HT2.out.alloc (.cells Z.toArray 5)).kept hb4 (by omega)); have HB4 := hidden hb4; have c0 := ((HT1.out.alloc (.cells Z.toArray 5)).kept hb4 (by omega)).cell0; have c1 := ((HT1.out.alloc (.cells Z.toArray 5)).kept hb4 (by omega)).cell1; have k1 := ((HT2.out.alloc (.cells Z.toArray 5)).kept hb4 (by omega)).cell1; have k0 := ((HT2.out.alloc (.cells Z.toArray 5)).kept hb4 (by omega)).cell0; have k2 := ((HT2.out.alloc (.cells Z.toArray 5)).kept hb4 (by omega)).frozen0; have k3 := ((HT2.out.alloc (.cells Z.toArray 5)).kept hb4 (by omega)).frozen1; clear hg4 hb4)
    have HB5 := hidden (show Below w.heap.size w w4 from HB3.out.trans (HB4.out.mono (by omega)))
    refine ret_two (x := .pointer x) (y := .slice (some ⟨w.heap.size + 1 + 1, 0, none⟩) (n + 1) (n + 1)) Tryz.results55 rfl rfl ?_ Tryz.underlying52 (by kernel_rfl) ⟨⟨_, _, rfl, word_more b ?_ ?_ HN.out hn2 HC.out HPS.out⟩, ?_⟩
    · exact (HT4.out.other (by omega) _).stored _ _
    · exact ((HB5.out.setCell (p := ⟨_, _, none⟩) (by dsimp only; omega) _).setCell (p := ⟨_, _, none⟩) (by dsimp only; omega) _).setCell (p := ⟨_, _, none⟩) (by dsimp only; omega) _
    · have h5 := ((HR4.out.set n b).other (C := w.heap.size + 1) (j := 0) (.pointer x) (by omega)).other (C := w.heap.size + 1) (j := 1) (.slice (some ⟨w.heap.size + 1 + 1, 0, none⟩) (n + 1) (n + 1)) (by omega)
      rw [set_last HN.out] at h5
      exact h5
    · exact ((HB5.out.setCell (p := ⟨_, _, none⟩) (by dsimp only; omega) _).setCell (p := ⟨_, _, none⟩) (by dsimp only; omega) _).setCell (p := ⟨_, _, none⟩) (by dsimp only; omega) _
end Go.Proofs.YtnjjbaodfjmiaaaGreat

/- The states that wait, in memory: what is found, and the queue; a state more. -/
namespace Go.Proofs.YtnjjbaodfjmiaaaGreat
open Go.RowKit Go.Lib Go.Joins

def isInt (w : World) (k : Nat) : Prop := ∃ cs fr, w.heap[k]? = some (.cells cs 3 fr)
/-- what a function that is called with each state keeps: all from block n on but rows of numbers -/
structure SeeF (n : Nat) (w w' : World) : Prop where
  os : w'.os = w.os
  tape : w'.tape = w.tape
  output : w'.output = w.output
  size : w.heap.size ≤ w'.heap.size
  block : ∀ k, k < w.heap.size → n ≤ k → ¬ isInt w k → w'.heap[k]? = w.heap[k]?
  words : KeepW w w'
/-- what the search itself keeps: all below block n, and rows of numbers -/
structure EachF (n : Nat) (w w' : World) : Prop where
  os : w'.os = w.os
  tape : w'.tape = w.tape
  output : w'.output = w.output
  size : w.heap.size ≤ w'.heap.size
  block : ∀ k, k < w.heap.size → (k < n ∨ isInt w k) → w'.heap[k]? = w.heap[k]?
theorem EachF.refl (n : Nat) (w : World) : EachF n w w := ⟨rfl, rfl, rfl, Nat.le_refl _, fun _ _ _ => rfl⟩
theorem EachF.trans {n : Nat} {a b c : World} (h : EachF n a b) (k : EachF n b c) : EachF n a c :=
  ⟨k.os.trans h.os, k.tape.trans h.tape, k.output.trans h.output, Nat.le_trans h.size k.size, fun i hi ho => by
    have e := h.block i hi ho
    refine (k.block i (Nat.lt_of_lt_of_le hi h.size) ?_).trans e
    rcases ho with ho | ⟨cs, fr, ho⟩
    · exact .inl ho
    · exact .inr ⟨cs, fr, e.trans ho⟩⟩
theorem EachF.of_below {n : Nat} {w w' : World} (h : Below w.heap.size w w') : EachF n w w' := ⟨h.os, h.tape, h.output, h.size, fun k hk _ => h.block k hk⟩
theorem EachF.grown {n : Nat} {w w' : World} {o : Option Nat} (hg : w.grownBy w' o) (ho : ∀ k, o = some k → n ≤ k ∧ ¬ isInt w k) : EachF n w w' :=
  ⟨hg.os, hg.tape, hg.output, hg.size, fun k hk hx => hg.block k hk fun e => by
    obtain ⟨h1, h2⟩ := ho k e.symm
    rcases hx with hx | hx
    · omega
    · exact h2 hx⟩
theorem not_int {w : World} {k : Nat} {cs : Array Value} {t : TypeId} {fr : Nat × Nat} (h : w.heap[k]? = some (.cells cs t fr)) (ht : t ≠ 3) : ¬ isInt w k := by
  rintro ⟨cs', fr', h'⟩
  rw [h] at h'
  simp only [Option.some.injEq, Obj.cells.injEq] at h'
  exact ht h'.2.1

/-- a state that waits, with its word's two cells -/
abbrev Ent := Nat × Value × Value
def entC (x : Ent) : List Value := [.int .i64 (x.1 : Nat), x.2.1, x.2.2]
def qCells (qs : List Ent) : List Value := qs.flatMap entC
theorem qCells_len (qs : List Ent) : (qCells qs).length = qs.length * 3 := by
  induction qs with
  | nil => rfl
  | cons x r ih => simp only [qCells, List.flatMap_cons, List.length_append, List.length_cons] at *; rw [ih]; simp [entC]; omega
theorem qCells_snoc (qs : List Ent) (x : Ent) : qCells (qs ++ [x]) = qCells qs ++ entC x := by simp [qCells]
/-- what waits, read -/
def Ents (w : World) (qs : List Ent) (Q : List Vis) : Prop := qs.length = Q.length ∧ ∀ i, i < Q.length → (qs.getD i (0, undef, undef)).1 = (Q.getD i (0, [])).1 ∧ WordAt w (qs.getD i (0, undef, undef)).2.1 (qs.getD i (0, undef, undef)).2.2 (Q.getD i (0, [])).2
theorem Ents.mono {w w' : World} {qs : List Ent} {Q : List Vis} (h : Ents w qs Q) (hk : KeepW w w') : Ents w' qs Q := ⟨h.1, fun i hi => ⟨(h.2 i hi).1, (h.2 i hi).2.mono hk⟩⟩
theorem Ents.nil (w : World) : Ents w [] [] := ⟨rfl, fun _ h => absurd h (Nat.not_lt_zero _)⟩
theorem Ents.snoc {w : World} {qs : List Ent} {Q : List Vis} (h : Ents w qs Q) {x : Ent} {v : Vis} (h1 : x.1 = v.1) (h2 : WordAt w x.2.1 x.2.2 v.2) : Ents w (qs ++ [x]) (Q ++ [v]) := by
  refine ⟨by simp [h.1], fun i hi => ?_⟩
  have hl := h.1
  simp only [List.length_append, List.length_cons, List.length_nil] at hi
  by_cases hi2 : i < Q.length
  · rw [List.getD_eq_getElem?_getD, List.getD_eq_getElem?_getD, List.getElem?_append_left (by omega), List.getElem?_append_left (by omega), ← List.getD_eq_getElem?_getD, ← List.getD_eq_getElem?_getD]
    exact h.2 i hi2
  · obtain rfl : i = Q.length := by omega
    rw [List.getD_eq_getElem?_getD, List.getD_eq_getElem?_getD, List.getElem?_append_right (by omega), List.getElem?_append_right (by omega), hl, Nat.sub_self]
    exact ⟨h1, h2⟩
theorem Ents.tail {w : World} {x : Ent} {qs : List Ent} {v : Vis} {Q : List Vis} (h : Ents w (x :: qs) (v :: Q)) : x.1 = v.1 ∧ WordAt w x.2.1 x.2.2 v.2 ∧ Ents w qs Q := by
  have h0 := h.2 0 (by simp)
  refine ⟨h0.1, h0.2, by simpa using h.1, fun i hi => ?_⟩
  have := h.2 (i + 1) (by simpa using hi)
  simpa using this

/-- what the search holds in memory, from block n on -/
structure EaSt (n : Nat) (w : World) (FB LB SB RB : Nat) (qv sv : Value) (fnd : List Bool) (qs : List Ent) (Q : List Vis) : Prop where
  f : Boxed w FB 30 (.slice (some ⟨RB, 0, none⟩) fnd.length fnd.length)
  r : RowAt w RB 4 Value.bool fnd
  l : Boxed w LB 81 qv
  s : Boxed w SB 54 sv
  q : QRow w n 83 3 qv qs.length (qCells qs)
  e : Ents w qs Q
  lo : n ≤ FB ∧ n ≤ LB ∧ n ≤ SB ∧ n ≤ RB
  nsz : n ≤ w.heap.size
section
variable {n : Nat} {w w' : World} {FB LB SB RB : Nat} {qv sv : Value} {fnd : List Bool} {qs : List Ent} {Q : List Vis}
/-- what holds of all its blocks -/
theorem EaSt.heap (h : EaSt n w FB LB SB RB qv sv fnd qs Q) (hs : w.heap.size ≤ w'.heap.size) (hk : ∀ k, k < w.heap.size → n ≤ k → ¬ isInt w k → w'.heap[k]? = w.heap[k]?) (hw : KeepW w w') : EaSt n w' FB LB SB RB qv sv fnd qs Q :=
  ⟨(hk FB h.f.lt h.lo.1 (not_int h.f (by decide))).trans h.f, (hk RB h.r.lt h.lo.2.2.2 (not_int h.r (by decide))).trans h.r, (hk LB h.l.lt h.lo.2.1 (not_int h.l (by decide))).trans h.l, (hk SB h.s.lt h.lo.2.2.1 (not_int h.s (by decide))).trans h.s,
    h.q.heap fun k e => by
      obtain ⟨h1, h2⟩ := h.q.lt k e
      refine hk k h2 h1 ?_
      rintro ⟨cs, fr, hb⟩
      exact h.q.off_type hb (by decide) e,
    h.e.mono hw, h.lo, Nat.le_trans h.nsz hs⟩
theorem EaSt.see (h : EaSt n w FB LB SB RB qv sv fnd qs Q) (hs : SeeF n w w') : EaSt n w' FB LB SB RB qv sv fnd qs Q := h.heap hs.size hs.block hs.words
theorem EaSt.below (h : EaSt n w FB LB SB RB qv sv fnd qs Q) (hb : Below w.heap.size w w') : EaSt n w' FB LB SB RB qv sv fnd qs Q := h.heap hb.size (fun k hk _ _ => hb.block k hk) (.of_below hb)
/-- what a state more keeps: blocks of the search that are none of those three -/
def WaitF (n : Nat) (w w' : World) (LB RB : Nat) (qv : Value) : Prop := w.heap.size ≤ w'.heap.size ∧ ∀ k, k < w.heap.size → n ≤ k → ¬ isInt w k → k ≠ LB → k ≠ RB → qv.ownBlock ≠ some k → w'.heap[k]? = w.heap[k]?
theorem setCell_grown (w : World) (B j : Nat) (v : Value) : w.grownBy (w.setCell ⟨B, j, none⟩ v) (some B) := ⟨rfl, rfl, rfl, by simp, fun k _ hk => heap_setCell_other _ _ _ _ (fun e => hk (by rw [e]))⟩
/-- a state is found -/
theorem EaSt.put (h : EaSt n w FB LB SB RB qv sv fnd qs Q) (i : Nat) : EaSt n (w.setCell ⟨RB, i, none⟩ (.bool true)) FB LB SB RB qv sv (fnd.set i true) qs Q ∧ EachF n w (w.setCell ⟨RB, i, none⟩ (.bool true)) ∧ KeepW w (w.setCell ⟨RB, i, none⟩ (.bool true)) := by
  have hg := setCell_grown w RB i (.bool true)
  have hk : KeepW w (w.setCell ⟨RB, i, none⟩ (.bool true)) := KeepW.grown hg fun k e cs t fr hb => by
    obtain rfl := Option.some.inj e
    have := h.r
    unfold RowAt at this
    rw [this] at hb
    simp only [Option.some.injEq, Obj.cells.injEq] at hb
    rw [← hb.2.1]
    exact ⟨by decide, by decide⟩
  have hne : ∀ {B : Nat} {t : TypeId} {v : Value}, Boxed w B t v → t ≠ 4 → RB ≠ B := fun hb ht e => by
    subst e
    have h1 := h.r
    unfold RowAt at h1
    unfold Boxed at hb
    rw [h1] at hb
    simp only [Option.some.injEq, Obj.cells.injEq] at hb
    exact ht hb.2.1.symm
  refine ⟨⟨?_, h.r.set i true, h.l.kept hg fun e => hne h.l (by decide) (Option.some.inj e).symm, h.s.kept hg fun e => hne h.s (by decide) (Option.some.inj e).symm, h.q.kept hg fun k e e2 => ?_, h.e.mono hk, h.lo, by simpa using h.nsz⟩, EachF.grown hg fun k e => ?_, hk⟩
  · rw [List.length_set]
    exact h.f.kept hg fun e => hne h.f (by decide) (Option.some.inj e).symm
  · obtain rfl := Option.some.inj e2
    exact h.q.off_type h.r (by decide) e
  · obtain rfl := Option.some.inj e
    exact ⟨h.lo.2.2.2, not_int h.r (by decide)⟩
/-- a state is put behind those that wait -/
theorem EaSt.push (h : EaSt n w FB LB SB RB qv sv fnd qs Q) {w1 : World} {qv' : Value} {x : Ent} {v : Vis} (hA : AppQ w w1 n 83 3 qv qv' (qs.length + 1) (qCells qs ++ entC x)) (h1 : x.1 = v.1) (h2 : WordAt w x.2.1 x.2.2 v.2) :
    EaSt n (w1.setCell ⟨LB, 0, none⟩ qv') FB LB SB RB qv' sv fnd (qs ++ [x]) (Q ++ [v]) ∧ EachF n w (w1.setCell ⟨LB, 0, none⟩ qv') ∧ KeepW w (w1.setCell ⟨LB, 0, none⟩ qv') ∧ Boxed w1 LB 81 qv := by
  have hq : ∀ {B : Nat} {t : TypeId} {cs : Array Value} {fr : Nat × Nat}, w.heap[B]? = some (.cells cs t fr) → t ≠ 83 → some B ≠ qv.ownBlock := fun hb ht e => h.q.off_type hb ht e.symm
  have hk1 : KeepW w w1 := KeepW.grown hA.grown fun k e cs t fr hb => by
    refine ⟨fun ht => h.q.off_type hb (by rw [ht]; decide) e, fun ht => h.q.off_type hb (by rw [ht]; decide) e⟩
  have hf1 : EachF n w w1 := EachF.grown hA.grown fun k e => ⟨(h.q.lt k e).1, fun ⟨cs, fr, hb⟩ => h.q.off_type hb (by decide) e⟩
  have b1 : Boxed w1 LB 81 qv := h.l.kept hA.grown (hq h.l (by decide))
  have b2 : Boxed w1 FB 30 (.slice (some ⟨RB, 0, none⟩) fnd.length fnd.length) := h.f.kept hA.grown (hq h.f (by decide))
  have b3 : Boxed w1 SB 54 sv := h.s.kept hA.grown (hq h.s (by decide))
  have b4 : RowAt w1 RB 4 Value.bool fnd := h.r.grown hA.grown (Ne.symm (hq h.r (by decide)))
  have hg := setCell_grown w1 LB 0 qv'
  have hne : ∀ {B : Nat} {t : TypeId} {cs : Array Value} {fr : Nat × Nat}, w1.heap[B]? = some (.cells cs t fr) → t ≠ 81 → LB ≠ B := fun hb ht e => by
    subst e
    have h5 := b1
    unfold Boxed at h5
    rw [h5] at hb
    simp only [Option.some.injEq, Obj.cells.injEq] at hb
    exact ht hb.2.1.symm
  have hk2 : KeepW w1 (w1.setCell ⟨LB, 0, none⟩ qv') := KeepW.grown hg fun k e cs t fr hb => by
    obtain rfl := Option.some.inj e
    exact ⟨fun ht => hne hb (by rw [ht]; decide) rfl, fun ht => hne hb (by rw [ht]; decide) rfl⟩
  have hf2 : EachF n w1 (w1.setCell ⟨LB, 0, none⟩ qv') := EachF.grown hg fun k e => by
    obtain rfl := Option.some.inj e
    exact ⟨h.lo.2.1, not_int b1 (by decide)⟩
  refine ⟨⟨b2.kept hg fun e => hne b2 (by decide) (Option.some.inj e).symm, b4.other _ (Ne.symm (hne b4 (by decide))), b1.set qv', b3.kept hg fun e => hne b3 (by decide) (Option.some.inj e).symm, ?_, (h.e.mono (hk1.trans hk2)).snoc h1 (h2.mono (hk1.trans hk2)), h.lo, ?_⟩, hf1.trans hf2, hk1.trans hk2, b1⟩
  · rw [List.length_append, qCells_snoc]
    refine hA.own.kept hg fun k e e2 => ?_
    obtain rfl := Option.some.inj e2
    exact hA.own.off_type b1 (by decide) e
  · have := h.nsz
    have := hA.grown.size
    simp
    omega
end
end Go.Proofs.YtnjjbaodfjmiaaaGreat

/- Contract of leastBytes: the least byte of each class. -/
namespace Go.Proofs.YtnjjbaodfjmiaaaGreat
open Go.RowKit

/-- the least byte of class c from m on; 0 where there is none -/
def lowG (g : Nat → Nat) (m c : Nat) : Nat := ((List.range' m (256 - m)).filter (clsF g c)).headD 0
theorem lowG_all (g : Nat → Nat) (c : Nat) : lowG g 0 c = lbC g c := by
  unfold lowG lbC lstC
  rw [List.range_eq_range']
theorem lowG_none (g : Nat → Nat) (c : Nat) : lowG g 256 c = 0 := rfl
theorem lowG_more (g : Nat → Nat) {m : Nat} (hm : m < 256) (c : Nat) : putG (lowG g (m + 1)) (g m) m c = lowG g m c := by
  obtain ⟨d, hd⟩ : ∃ d, 256 - m = d + 1 := ⟨255 - m, by omega⟩
  have hd2 : 256 - (m + 1) = d := by omega
  unfold putG lowG
  rw [hd, hd2, List.range'_succ]
  by_cases h : c = g m
  · rw [if_pos h, List.filter_cons_of_pos (by simp [clsF, h])]
    rfl
  · rw [if_neg h, List.filter_cons_of_neg (by simp [clsF]; omega)]
set_option maxHeartbeats 1000000 in
set_option maxRecDepth 100000 in
theorem leastBytes_calls (g : Nat → Nat) (w : World) (hg : ∀ j, j < 256 → g j < 256) :
    Calls Tryz.prog 53 #[ar g] w fun e w' => e = .returned (ar (lbC g)) ∧ Below w.heap.size w w' := by
  have HG := hidden hg
  clear hg
  have hbx := run_box_arr g
  have hal := run_zero_arr
  go_enter Tryz.func53, Tryz.ntmps53
  go_wp2
  go_loopw [4] (fun i wr => ∃ m : Nat, m ≤ 256 ∧ i = .int .i64 ((m : Int) - 1) ∧ ArrAt wr w.heap.size 22 (nV g) ∧ ArrAt wr (w.heap.size + 1) 22 (nV fun _ => 0) ∧ ArrAt wr (w.heap.size + 2) 22 (nV (lowG g m)) ∧ Below w.heap.size w wr ∧ w.heap.size + 3 ≤ wr.heap.size) (fun i _ => (Go.RowKit.intOf i + 1).toNat)
  case atStart =>
    have z : (nV fun _ => 0) = nV (lowG g 256) := by funext j; rfl
    have hA := ArrAt.newAt (t := 22) (v := nV g) (w := w) rfl
    have hP := ArrAt.newAt (t := 22) (v := nV fun _ => 0) (show (w.alloc (.cells (cellsN (nV g)) 22)).heap.size = w.heap.size + 1 by simp)
    have hQ := ArrAt.newAt (t := 22) (v := nV fun _ => 0) (show ((w.alloc (.cells (cellsN (nV g)) 22)).alloc (.cells (cellsN (nV fun _ => 0)) 22)).heap.size = w.heap.size + 2 by simp)
    exact ⟨256, by omega, rfl, (hA.alloc _).alloc _, hP.alloc _, z ▸ hQ, (((Below.refl w.heap.size w).alloc (Nat.le_refl _) _).alloc (by simp) _).alloc (by simp; omega) _, by simp⟩
  case round =>
    obtain ⟨m, hm, rfl, h0, h1, h2, h5, h6⟩ := hrel
    have H0 := hidden h0
    have H1 := hidden h1
    have H2 := hidden h2
    have H5 := hidden h5
    by_cases hlt : 0 < m
    · obtain ⟨k, rfl⟩ : ∃ k, m = k + 1 := ⟨m - 1, by omega⟩
      have e : (((k + 1 : Nat) : Int) - 1) = (k : Int) := by omega
      rw [e]
      have hk : k < 256 := by omega
      have ca := h0.cell hk
      have hgk := HG.out k hk
      have p0 := h2.cell hgk
      have p1 := h2.frozen (g k)
      have wb : IntKind.u8.wrap (k : Int) = k := by rw [IntKind.wrap_u8]; omega
      unfold nV at ca p0
      clear h0 h1 h2 h5 e
      go_wp2
      go_roundw
      case rel =>
        refine ⟨k, by omega, by go_num, H0.out.other (by omega) _, H1.out.other (by omega) _, (H2.out.stored (g k) _).congr fun j _ => ?_, H5.out.setCell (by dsimp only; omega) _, by simpa using h6⟩
        rw [putN_nV]
        unfold nV
        rw [lowG_more g hk]
      case measure => simp [Go.RowKit.intOf]
    · obtain rfl : m = 0 := by omega
      clear h0 h1 h2 h5
      have HE := hidden (show ar (lowG g 0) = ar (lbC g) from ar_congr fun j _ => lowG_all g j)
      go_wp2_with (first
        | (refine load_arr rfl (x := .tmp 3) rfl rfl H2.out ?_)
        | (refine store_arr rfl (x := .tmp 2) (y := .tmp 15) rfl (B := w.heap.size + 1) (lowG g 0) rfl rfl H1.out ?_; intro w3 hw3 hs3)
        | fail)
      refine ret_arr Tryz.results53 rfl rfl (v := nV (lowG g 0)) (g := lowG g 0) (by rw [hw3.out]; exact H1.out.storedRow _) (fun _ _ => rfl) ⟨by rw [HE.out], by rw [hw3.out]; exact below_setRow H5.out (by omega) _⟩
end Go.Proofs.YtnjjbaodfjmiaaaGreat
