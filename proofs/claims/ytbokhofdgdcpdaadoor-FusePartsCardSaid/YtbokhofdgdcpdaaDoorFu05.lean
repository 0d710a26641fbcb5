/- SetTwo, FaTab, FaTabs, put together. -/
import Derived.Test.YtbokhofdgdcpdaaDoorFu04
import Derived.Deep.RegionHeld3
import Derived.Lib.SmallJoins
import Derived.Laws.MakeOwn
import Derived.Maps.AppendAt
import Derived.Deep.OwnRows
import Derived.RangeFuncBox
/- Contracts of the reference's functions on two sets, on a list of sets, and of its Not. -/
namespace Go.Proofs.YtbokhofdgdcpdaaDoor
open Go.RowKit

theorem rone_calls (k : Nat) (w : World) (h : k < 256) :
    Calls Tryd.prog 108 #[.int .u8 k] w fun e w' => e = .returned (.agg #[.int .u64 (word (fOne k) 0), .int .u64 (word (fOne k) 1), .int .u64 (word (fOne k) 2), .int .u64 (word (fOne k) 3)]) ∧ Below w.heap.size w w' := by
  have hw := fun w => with_nat fNone k w h
  simp only [word_none] at hw
  have HW := hidden hw
  clear hw
  go_enter Tryd.func108, Tryd.ntmps108
  go_wp2_with fail
  refine (HW.out _).mono ?_
  rintro e w' ⟨rfl, hb1⟩
  have hS := (SetAt.new w fNone).below (by
    rw [zeros_none] at hb1
    exact hb1)
  obtain ⟨c0, c1, c2, c3, f0, f1, f2, f3⟩ := hS.facts
  have HS := hidden hS
  have HB := hidden (below_then ((Below.refl w.heap.size w).alloc (Nat.le_refl _) _) (by simp) hb1)
  clear hS hb1
  go_wp2
  exact ret_setAt Tryd.results108 rfl rfl HS.out.stored (fun n _ => by simp [fOr, fNone]) ⟨rfl, below_cells HB.out _ (by omega) _ _ _ _⟩

theorem rhas_nat (f : Nat → Bool) (k : Nat) (w : World) (h1 : k < 256) :
    Calls Tryd.prog 23 #[(.agg #[.int .u64 (word (f) 0), .int .u64 (word (f) 1), .int .u64 (word (f) 2), .int .u64 (word (f) 3)]), .int .u8 k] w fun e w' => e = .returned (.bool (f k)) ∧ Below w.heap.size w w' := by
  have := rhas_calls f k w (by omega) (by omega)
  rwa [Int.toNat_natCast] at this

/-- which bytes two sets have -/
def fTwo (how : Int) (f g : Nat → Bool) (n : Nat) : Bool := (how == 0 && (f n || g n)) || (how == 1 && (f n && g n)) || (how == 2 && (f n && !g n))

theorem bcell {W w1 : World} (hb : Below W.heap.size W w1) : (∀ b o, b < W.heap.size → w1.cell? ⟨b, o, none⟩ = W.cell? ⟨b, o, none⟩) ∧ (∀ b o, b < W.heap.size → w1.frozen? ⟨b, o, none⟩ = W.frozen? ⟨b, o, none⟩) :=
  ⟨fun b o h => hb.cell (p := ⟨b, o, none⟩) h, fun b o h => hb.frozen (p := ⟨b, o, none⟩) h⟩

theorem up_step {f : Nat → Bool} {k : Nat} (h : f k = true) (n : Nat) : fOr (fUpto f k) (fOne k) n = fUpto f (k + 1) n := by
  simp only [fOr, fUpto, fOne]
  by_cases e : n = k
  · subst e; simp [h]
  · rw [Bool.eq_iff_iff]; simp [e]; omega
theorem up_skip {f : Nat → Bool} {k : Nat} (h : f k = false) (n : Nat) : fUpto f k n = fUpto f (k + 1) n := by
  simp only [fUpto]
  by_cases e : n = k
  · subst e; simp [h]
  · rw [Bool.eq_iff_iff]; simp; omega

theorem SetAt.alloc {w : World} {B : Nat} {f : Nat → Bool} (h : SetAt w B f) (o : Obj) : SetAt (w.alloc o) B f := (heap_alloc_old w o h.lt).trans h
theorem SetAt.newAt (w : World) (f : Nat → Bool) (B : Nat) (hB : w.heap.size = B) : SetAt (w.alloc (.cells #[.int .u64 (word (f) 0), .int .u64 (word (f) 1), .int .u64 (word (f) 2), .int .u64 (word (f) 3)] 28)) B f := by
  subst hB
  exact SetAt.new w f
theorem SetAt.newNone (w : World) (B : Nat) (hB : w.heap.size = B) : SetAt (w.alloc (.cells #[.int .u64 0, .int .u64 0, .int .u64 0, .int .u64 0] 28)) B fNone := by
  rw [zeros_none]
  exact SetAt.newAt w fNone B hB

set_option maxRecDepth 100000 in
theorem two_calls (how : Int) (f g : Nat → Bool) (w : World) (hH : how = 0 ∨ how = 1 ∨ how = 2) :
    Calls Tryd.prog 112 #[.int .i64 how, (.agg #[.int .u64 (word (f) 0), .int .u64 (word (f) 1), .int .u64 (word (f) 2), .int .u64 (word (f) 3)]), (.agg #[.int .u64 (word (g) 0), .int .u64 (word (g) 1), .int .u64 (word (g) 2), .int .u64 (word (g) 3)])] w fun e w' => e = .returned (.agg #[.int .u64 (word (fTwo how f g) 0), .int .u64 (word (fTwo how f g) 1), .int .u64 (word (fTwo how f g) 2), .int .u64 (word (fTwo how f g) 3)]) ∧ Below w.heap.size w w' := by
  have HH := hidden hH
  clear hH
  go_enter Tryd.func112, Tryd.ntmps112
  go_wp2
  go_loopw [8] (fun i wr => ∃ k : Nat, k ≤ 256 ∧ i = .int .i64 k ∧ SetAt wr w.heap.size f ∧ SetAt wr (w.heap.size + 1) g ∧ SetAt wr (w.heap.size + 1 + 1) fNone ∧ SetAt wr (w.heap.size + 1 + 1 + 1) (fUpto (fTwo how f g) k) ∧ Below w.heap.size w wr) (fun i _ => 256 - (intOf i).toNat)
  case atStart =>
    exact ⟨0, by omega, rfl, (((SetAt.new w f).alloc _).alloc _).alloc _, ((SetAt.newAt _ g _ (by simp)).alloc _).alloc _, (SetAt.newNone _ _ (by simp)).alloc _, (SetAt.newNone _ _ (by simp)).congr fun n _ => (upto_none _ n).symm, by go_grown⟩
  case round =>
    obtain ⟨k, hk, rfl, hF, hG, hA, hS, hb⟩ := hrel
    have HS := hidden hS
    have HA := hidden hA
    have HF := hidden hF
    have HG := hidden hG
    have l1 := hS.lt
    by_cases hlt : k < 256
    · obtain ⟨c0, c1, c2, c3, _, _, _, _⟩ := hF.facts
      obtain ⟨d0, d1, d2, d3, _, _, _, _⟩ := hG.facts
      clear hS hA hF hG
      have hwr : IntKind.u8.wrap (k : Int) = k := by rw [IntKind.wrap_u8]; omega
      go_wp2_with fail
      go_region_held3 (fun w' => w'.cell? ⟨w.heap.size, 0, none⟩ = some (.int .u64 (word f 0)) ∧ w'.cell? ⟨w.heap.size, 1, none⟩ = some (.int .u64 (word f 1)) ∧ w'.cell? ⟨w.heap.size, 2, none⟩ = some (.int .u64 (word f 2)) ∧ w'.cell? ⟨w.heap.size, 3, none⟩ = some (.int .u64 (word f 3)) ∧
        w'.cell? ⟨w.heap.size + 1, 0, none⟩ = some (.int .u64 (word g 0)) ∧ w'.cell? ⟨w.heap.size + 1, 1, none⟩ = some (.int .u64 (word g 1)) ∧ w'.cell? ⟨w.heap.size + 1, 2, none⟩ = some (.int .u64 (word g 2)) ∧ w'.cell? ⟨w.heap.size + 1, 3, none⟩ = some (.int .u64 (word g 3)) ∧ Below wr.heap.size wr w')
        (first | (go_keep; done) | ((try dsimp only); (try go_split_ands); refine ⟨?_, ?_, ?_, ?_, ?_, ?_, ?_, ?_, ?_⟩ <;> (first | assumption | (exact (Below.refl _ _).drew) | (exact below_after ((Below.refl _ _).drew) hb1) | (exact below_after (by assumption) hb1) | ((rw [hb1.cell (by simp; omega)]; (first | assumption | (simp; assumption)))))))
        ((go_at_call 23; refine (rhas_nat _ k _ hlt).mono ?_; rintro e w1 ⟨rfl, hb1⟩; have hz1 := hb1.size; (try simp at hz1)))
      go_split_ands
      have hB : Below wr.heap.size wr w1 := by assumption
      have hS' := HS.out.below hB
      have hA' := HA.out.below hB
      have hF' := HF.out.below hB
      have hG' := HG.out.below hB
      have hb' := hidden (below_then hb (by omega) hB)
      obtain ⟨p0, p1, p2, p3, q0, q1, q2, q3⟩ := hS'.facts
      have HS' := hidden hS'
      have HA' := hidden hA'
      have HF' := hidden hF'
      have HG' := hidden hG'
      clear hB hS' hA' hF' hG' HS HA HF HG hb c0 c1 c2 c3 d0 d1 d2 d3
      have hH := HH.out
      clear HH
      rcases hH with e | e | e
      all_goals subst e
      all_goals cases hf : f k <;> cases hg : g k
      all_goals go_wp2_with fail
      all_goals first
        | exact ⟨⟨k + 1, by omega, by go_num, HF'.out, HG'.out, HA'.out, HS'.out.congr fun n _ => up_skip (by simp [fTwo, hf, hg]) n, hb'.out⟩, by simp [intOf]; omega⟩
        | ((with_reducible refine (with_nat _ k _ (by omega)).mono ?_)
           rintro e w2 ⟨rfl, hb2⟩
           have hS2 := HS'.out.below hb2
           have hA2 := HA'.out.below hb2
           have hF2 := HF'.out.below hb2
           have hG2 := HG'.out.below hb2
           have l2 := hb'.out.size
           have HB2 := hidden (below_then hb'.out (by omega) hb2)
           clear p0 p1 p2 p3 q0 q1 q2 q3
           obtain ⟨p0, p1, p2, p3, q0, q1, q2, q3⟩ := hS2.facts
           have HS2 := hidden hS2
           have HA2 := hidden hA2
           have HF2 := hidden hF2
           have HG2 := hidden hG2
           clear hS2 hA2 hF2 hG2 hb2 HS' HA' HF' HG'
           go_wp2
           go_roundw
           case rel =>
             exact ⟨k + 1, by omega, by go_num, set_other HF2.out (by omega) _ _ _ _, set_other HG2.out (by omega) _ _ _ _, set_other HA2.out (by omega) _ _ _ _, HS2.out.stored.congr fun n _ => up_step (by simp [fTwo, hf, hg]) n,
               below_cells HB2.out _ (by omega) _ _ _ _⟩
           case measure => simp [intOf]; omega)
    · have e : k = 256 := by omega
      have HE := hidden e
      obtain ⟨c0, c1, c2, c3, f0, f1, f2, f3⟩ := hS.facts
      obtain ⟨d0, d1, d2, d3, g0, g1, g2, g3⟩ := hA.facts
      clear hS hA hF hG e
      go_wp2
      refine ret_setAt Tryd.results112 rfl rfl HA.out.stored (fun n hn => ?_) ⟨rfl, below_cells hb _ (by omega) _ _ _ _⟩
      rw [HE.out, upto_all _ n hn]
end Go.Proofs.YtbokhofdgdcpdaaDoor

/- The reference's tables in memory: what a table reads as, a table of the call's own; none, same, set, both. -/
namespace Go.Proofs.YtbokhofdgdcpdaaDoor
open Go.RowKit Go.Lib Go.Joins

/-- block b has cells of a type -/
def Typ (w : World) (b : Nat) (t : TypeId) : Prop := ∃ cs fz, w.heap[b]? = some (.cells cs t fz)
theorem Typ.below {w w' : World} {b : Nat} {t : TypeId} (h : Typ w b t) (hb : Below w.heap.size w w') : Typ w' b t := by
  obtain ⟨cs, fz, h⟩ := h
  exact ⟨cs, fz, (hb.block b (Array.getElem?_eq_some_iff.1 h).1).trans h⟩
/-- slice value v reads as a table -/
def MatR (w : World) (v : Value) (N : Nat) (M : Nat → Nat → Bool) : Prop :=
  ∃ b off cap, v = .slice (some ⟨b, off, none⟩) N cap ∧ ∀ p, p < N → ∃ c o cp, w.cell? ⟨b, off + p, none⟩ = some (.slice (some ⟨c, o, none⟩) N cp) ∧ (∀ q, q < N → w.cell? ⟨c, o + q, none⟩ = some (.bool (M p q))) ∧ Typ w c 4
theorem MatR.below {w w' : World} {v : Value} {N : Nat} {M : Nat → Nat → Bool} (h : MatR w v N M) (hb : Below w.heap.size w w') : MatR w' v N M := by
  obtain ⟨b, off, cap, rfl, hc⟩ := h
  refine ⟨b, off, cap, rfl, fun p hp => ?_⟩
  obtain ⟨c, o, cp, h1, h2, h3⟩ := hc p hp
  exact ⟨c, o, cp, (hb.cell (p := ⟨b, off + p, none⟩) (cell_lt h1)).trans h1, fun q hq => (hb.cell (p := ⟨c, o + q, none⟩) (cell_lt (h2 q hq))).trans (h2 q hq), h3.below hb⟩
theorem MatR.congr {w : World} {v : Value} {N : Nat} {M M' : Nat → Nat → Bool} (h : MatR w v N M) (e : Alike N M M') : MatR w v N M' := by
  obtain ⟨b, off, cap, rfl, hc⟩ := h
  refine ⟨b, off, cap, rfl, fun p hp => ?_⟩
  obtain ⟨c, o, cp, h1, h2, h3⟩ := hc p hp
  exact ⟨c, o, cp, h1, fun q hq => by rw [h2 q hq, e p q hp hq], h3⟩
theorem grownBy_set (w : World) (b q : Nat) (v : Value) : w.grownBy (w.setCell ⟨b, q, none⟩ v) (some b) :=
  ⟨rfl, rfl, rfl, by simp [World.setCell], fun k _ hk => heap_setCell_other _ _ _ _ fun e => hk (by rw [e])⟩
def rowV (N c : Nat) : Value := .slice (some ⟨c, 0, none⟩) N N
/-- a table of the call's own, that may be written -/
structure TabW (w : World) (base g cap : Nat) (rs : List Nat) (N : Nat) (M : Nat → Nat → Bool) : Prop where
  own : w.ownsRow base 45 1 (.slice (some ⟨g, 0, none⟩) N cap) N (rs.map (rowV N))
  len : rs.length = N
  nodup : rs.Nodup
  low : ∀ p, p < N → base ≤ rs.getD p 0
  row : ∀ p, p < N → w.rowIs (rs.getD p 0) 4 N fun q => .bool (M p q)
section
variable {w : World} {base g cap : Nat} {rs : List Nat} {N : Nat} {M : Nat → Nat → Bool}
theorem TabW.blk (h : TabW w base g cap rs N M) : ∃ cur, w.heap[g]? = some (.cells cur 45 (0, 0)) := by
  rcases h.own.2 with ⟨e, _⟩ | ⟨g', cap', cur, e, _, hg, _⟩
  · cases e
  · simp only [Value.slice.injEq, Option.some.injEq, Addr.mk.injEq, and_true, true_and] at e
    obtain ⟨rfl, rfl⟩ := e
    exact ⟨cur, hg⟩
theorem TabW.ne (h : TabW w base g cap rs N M) {p : Nat} (hp : p < N) : rs.getD p 0 ≠ g := by
  intro e
  obtain ⟨cur, hg⟩ := h.blk
  obtain ⟨cs, hc, _⟩ := h.row p hp
  rw [e, hg] at hc
  simp at hc
theorem TabW.cell1 (h : TabW w base g cap rs N M) {p : Nat} (hp : p < N) : w.cell? ⟨g, p, none⟩ = some (.slice (some ⟨rs.getD p 0, 0, none⟩) N N) := by
  have hl := h.len
  rw [World.ownsRow.cellAt h.own p (by omega), List.getElem?_map, List.getElem?_eq_getElem (by omega), List.getD_eq_getElem?_getD, List.getElem?_eq_getElem (by omega)]
  rfl
theorem TabW.cell2 (h : TabW w base g cap rs N M) {p q : Nat} (hp : p < N) (hq : q < N) : w.cell? ⟨rs.getD p 0, q, none⟩ = some (.bool (M p q)) := (h.row p hp).cell hq
theorem TabW.frozen2 (h : TabW w base g cap rs N M) {p : Nat} (q : Nat) (hp : p < N) : w.frozen? ⟨rs.getD p 0, q, none⟩ = false := (h.row p hp).frozen q
theorem TabW.lt1 (h : TabW w base g cap rs N M) : base ≤ g ∧ g < w.heap.size := by
  obtain ⟨cur, hg⟩ := h.blk
  have := h.own.lt g rfl
  exact this
theorem TabW.reads (h : TabW w base g cap rs N M) : MatR w (.slice (some ⟨g, 0, none⟩) N cap) N M :=
  ⟨g, 0, cap, rfl, fun p hp => ⟨rs.getD p 0, 0, N, by rw [Nat.zero_add]; exact h.cell1 hp, fun q hq => by rw [Nat.zero_add]; exact h.cell2 hp hq, (h.row p hp).imp fun cs hc => ⟨_, hc.1⟩⟩⟩
theorem TabW.congr {M' : Nat → Nat → Bool} (h : TabW w base g cap rs N M) (e : Alike N M M') : TabW w base g cap rs N M' :=
  ⟨h.own, h.len, h.nodup, h.low, fun p hp => (h.row p hp).congr fun q hq => by rw [e p q hp hq]⟩
theorem TabW.below {w' : World} (h : TabW w base g cap rs N M) (hb : Below w.heap.size w w') : TabW w' base g cap rs N M :=
  ⟨h.own.kept (row := none) ⟨hb.os, hb.tape, hb.output, hb.size, fun k hk _ => hb.block k hk⟩ (.inr (by simp [Value.ownBlock])), h.len, h.nodup, h.low, fun p hp => (h.row p hp).of_block (hb.block _ (h.row p hp).lt)⟩
theorem TabW.lower {base' : Nat} (h : TabW w base g cap rs N M) (hb : base' ≤ base) : TabW w base' g cap rs N M :=
  ⟨ownsRow_le h.own hb, h.len, h.nodup, fun p hp => Nat.le_trans hb (h.low p hp), h.row⟩
theorem TabW.drew (h : TabW w base g cap rs N M) : TabW w.drew base g cap rs N M := h.below ⟨rfl, rfl, rfl, Nat.le_refl _, fun _ _ => rfl⟩
theorem TabW.set (h : TabW w base g cap rs N M) {p : Nat} (hp : p < N) (q : Nat) (x : Bool) : TabW (w.setCell ⟨rs.getD p 0, q, none⟩ (.bool x)) base g cap rs N (fun a b => if a = p ∧ b = q then x else M a b) := by
  refine ⟨?_, h.len, h.nodup, h.low, fun a ha => ?_⟩
  · exact h.own.kept (grownBy_set w _ q _) (.inr (by simp only [Value.ownBlock, ne_eq, Option.some.injEq]; exact (h.ne hp).symm))
  · by_cases e : a = p
    · subst e
      refine ((h.row a ha).set q (.bool x)).congr fun b hb => ?_
      by_cases e2 : b = q <;> simp [e2]
    · have hne : rs.getD a 0 ≠ rs.getD p 0 := by
        have hl := h.len
        rw [List.getD_eq_getElem?_getD, List.getD_eq_getElem?_getD, List.getElem?_eq_getElem (by omega), List.getElem?_eq_getElem (by omega)]
        have hpw := List.pairwise_iff_getElem.1 h.nodup
        rcases Nat.lt_trichotomy a p with h1 | h1 | h1
        · exact hpw a p _ _ h1
        · exact absurd h1 e
        · exact (hpw p a _ _ h1).symm
      refine ((h.row a ha).setOther (a := ⟨rs.getD p 0, q, none⟩) hne _).congr fun b hb => ?_
      simp [e]
end
/-- what a call that makes a table hands back -/
def RetM (w : World) (N : Nat) (M : Nat → Nat → Bool) (e : Ending) (w' : World) : Prop := ∃ g cap rs, e = .returned (.slice (some ⟨g, 0, none⟩) N cap) ∧ TabW w' w.heap.size g cap rs N M ∧ Below w.heap.size w w'

/-! ### an empty table -/
theorem infoBools : (Tryd.prog.info? 45).map (fun i => (i.zero, i.size, i.bytes)) = some (some (.slice none 0 0), 1, 24) := by kernel_rfl
theorem infoBool : (Tryd.prog.info? 4).map (fun i => (i.zero, i.size, i.bytes)) = some (some (.bool false), 1, 1) := by kernel_rfl
/-- the first k rows -/
structure Rows0 (w : World) (N k : Nat) (v : Value) (rs : List Nat) (wr : World) : Prop where
  own : wr.ownsRow w.heap.size 45 1 v k (rs.map (rowV N))
  len : rs.length = k
  nodup : rs.Nodup
  low : ∀ c ∈ rs, w.heap.size ≤ c
  row : ∀ c ∈ rs, wr.rowIs c 4 N fun _ => .bool false
  frame : Below w.heap.size w wr
theorem Rows0.done {w wr : World} {N : Nat} {g cap : Nat} {rs : List Nat} (h : Rows0 w N N (.slice (some ⟨g, 0, none⟩) N cap) rs wr) : TabW wr w.heap.size g cap rs N (fun _ _ => false) := by
  have hl := h.len
  have hm : ∀ p, p < N → rs.getD p 0 ∈ rs := fun p hp => by
    rw [List.getD_eq_getElem?_getD, List.getElem?_eq_getElem (by omega)]
    exact List.getElem_mem _
  exact ⟨h.own, h.len, h.nodup, fun p hp => h.low _ (hm p hp), fun p hp => h.row _ (hm p hp)⟩
theorem Rows0.start (w : World) (N b : Nat) (hb : b = w.heap.size) (cur : Array Value) (hc : cur = #[]) : Rows0 w N 0 (.slice (some ⟨b, 0, none⟩) 0 0) [] (w.alloc (.cells cur 45)) := by
  subst hb hc
  exact ⟨World.ownsRow_lit (e := 45) (size := 1) w #[] 0 (Nat.le_refl _) (by decide) rfl, rfl, List.nodup_nil, (fun c hc => by cases hc), (fun c hc => by cases hc), (Below.refl _ _).alloc (Nat.le_refl _) _⟩
/-- a row is made -/
theorem Rows0.made {w wr : World} {N k : Nat} {v : Value} {rs : List Nat} (h : Rows0 w N k v rs wr) (cur : Array Value) (hc : cur = madeCells #[Value.bool false] N) (x : Value) :
    Rows0 w N k v rs ((wr.alloc (.cells cur 4)).alloc (.cells #[x] 45)) ∧ wr.heap.size ∉ rs ∧ w.heap.size ≤ wr.heap.size ∧ ((wr.alloc (.cells cur 4)).alloc (.cells #[x] 45)).rowIs wr.heap.size 4 N fun _ => .bool false := by
  subst hc
  refine ⟨⟨World.ownsRow.alloc (World.ownsRow.alloc h.own _) _, h.len, h.nodup, h.low, fun c hc => ((h.row c hc).alloc _).alloc _, (h.frame.alloc h.frame.size _).alloc (by have := h.frame.size; simp; omega) _⟩, fun hm => ?_, h.frame.size, (World.rowIs_made wr _ N _).alloc _⟩
  exact absurd (h.row _ hm).lt (Nat.lt_irrefl _)
/-- and put behind the others -/
theorem Rows0.more {w wr w' : World} {N k c : Nat} {v v' : Value} {rs : List Nat} (h : Rows0 w N k v rs wr) (hn : c ∉ rs) (hlow : w.heap.size ≤ c) (hr : wr.rowIs c 4 N fun _ => .bool false)
    (hown : w'.ownsRow w.heap.size 45 1 v' (k + 1) (rs.map (rowV N) ++ [rowV N c])) (hg : wr.grownBy w' v.ownBlock) : Rows0 w N (k + 1) v' (rs ++ [c]) w' := by
  have hne : ∀ d, (wr.rowIs d 4 N fun _ => .bool false) → some d ≠ v.ownBlock := fun d hd e => by
    obtain ⟨cs, hc, _⟩ := hd
    rcases h.own.2 with ⟨rfl, _⟩ | ⟨g, cap, cur, rfl, _, hgg, _⟩
    · simp [Value.ownBlock] at e
    · simp only [Value.ownBlock, Option.some.injEq] at e
      subst e
      rw [hgg] at hc
      simp at hc
  have hkeep : ∀ d, (wr.rowIs d 4 N fun _ => .bool false) → w'.rowIs d 4 N fun _ => .bool false := fun d hd => hd.of_block (hg.block d hd.lt (hne d hd))
  refine ⟨by simpa using hown, by simp [h.len], ?_, ?_, ?_, h.frame.grown hg h.frame.size fun j e => (h.own.lt j e).1⟩
  · rw [List.nodup_append]
    exact ⟨h.nodup, by simp, fun a ha b hb => by simp at hb; rintro rfl; exact hn (hb ▸ ha)⟩
  · intro d hd
    rcases List.mem_append.1 hd with hd | hd
    · exact h.low d hd
    · simp at hd; subst hd; exact hlow
  · intro d hd
    rcases List.mem_append.1 hd with hd | hd
    · exact hkeep d (h.row d hd)
    · simp at hd; subst hd; exact hkeep d hr
set_option maxHeartbeats 2000000 in
set_option maxRecDepth 100000 in
theorem none_calls (s : ByteArray) (w : World) (hs : s.size ≤ 1000) : Calls Tryd.prog 104 #[.string s] w (RetM w (s.size + 1) fun _ _ => false) := by
  obtain ⟨i0, hi, hz0, hz1, hz2⟩ := info_parts infoBools
  obtain ⟨i1, hj, hy0, hy1, hy2⟩ := info_parts infoBool
  have hadd : IntKind.i64.wrap ((s.size : Int) + 1) = ((s.size + 1 : Nat) : Int) := by rw [IntKind.wrap_i64]; omega
  have hmk : ∀ W, (Instr.makeSlice 45 (.int .i64 ((s.size + 1 : Nat) : Int)) (.int .i64 ((s.size + 1 : Nat) : Int))).run Tryd.prog W = .ok (.slice (some ⟨W.heap.size, 0, none⟩) (s.size + 1) (s.size + 1)) (W.alloc (.cells (madeCells #[Value.bool false] (s.size + 1)) 4)) := fun W => by
    have := run_make (P := Tryd.prog) W 45 4 i1 _ Tryd.underlying45 hj hy0 .i64 .i64 ((s.size + 1 : Nat) : Int) ((s.size + 1 : Nat) : Int) (by omega) (by omega) (by rw [hy2]; omega) (by omega)
    simpa [hy1, Value.cells] using this
  obtain ⟨n, hn⟩ : ∃ n, n = s.size := ⟨_, rfl⟩
  rw [← hn] at hs hadd hmk ⊢
  obtain ⟨N, hN⟩ : ∃ N, N = n + 1 := ⟨_, rfl⟩
  obtain ⟨cur0, hcur⟩ : ∃ c, c = madeCells #[Value.bool false] (n + 1) := ⟨_, rfl⟩
  rw [← hN] at hmk hadd ⊢
  rw [← hN] at hcur
  rw [← hcur] at hmk
  have HC := hidden hcur
  have HN := hidden hN
  have HNN := hidden hn
  have hnn : s.size = n := hn.symm
  have hNle : N ≤ 1001 := by omega
  clear hy0 hy1 hy2 hj hcur hN hn
  go_enter Tryd.func104, Tryd.ntmps104
  go_wp2
  go_loopw [3, 4] (fun v i wr => ∃ (j : Nat) (rs : List Nat), j ≤ N ∧ i = .int .i64 j ∧ Rows0 w N j v rs wr) (fun _ i _ => N - (intOf i).toNat)
  case atStart => exact ⟨0, [], by omega, rfl, Rows0.start w N _ rfl _ rfl⟩
  case round =>
    obtain ⟨j, rs, hj, rfl, hp⟩ := hrel
    have HP := hidden hp
    clear hp
    have hNn : N = n + 1 := HN.out
    by_cases hlt : j < N
    · have hd : decide ((j : Int) ≤ n) = true := decide_eq_true (by omega)
      have hd' : decide (j ≤ n) = true := decide_eq_true (by omega)
      obtain ⟨p1, p2, p3, p4⟩ := HP.out.made cur0 HC.out (rowV N wr.heap.size)
      have P1 := hidden p1
      have P2 := hidden p2
      have P4 := hidden p4
      have HL := hidden hlt
      clear p1 p2 p4
      clear hNn
      go_wp2_with (at_builtin; refine wpList_append_own _ rfl _ _ 107 rfl w.heap.size 45 i0 (.slice none 0 0) 1 24 Tryd.underlying107 hi hz0 hz1 hz2 rfl (by decide) _ j (rs.map (rowV N)) rfl P1.out.own ⟨wr.heap.size + 1, 0, none⟩ 1 1 [rowV N wr.heap.size] rfl rfl ?d1 ?d2 ?d3 ?d4 ?d5 ?_)
      case d1 =>
        have := cell_one_new (wr.alloc (.cells cur0 4)) (rowV N wr.heap.size) 45
        have e : (wr.alloc (.cells cur0 4)).heap.size = wr.heap.size + 1 := by simp
        rw [e] at this
        exact this
      case d2 => intro x hx; simp at hx; subst hx; rfl
      case d3 => have := HN.out; unfold maxLen; omega
      case d4 => have := HN.out; omega
      case d5 => simp; omega
      intro v' w3 hown hgrow _
      have HS := hidden (P1.out.more P2.out p3 P4.out hown hgrow)
      clear hown hgrow
      go_wp2
      have hNn := HN.out
      have hlt' := HL.out
      go_roundw
      case rel => exact ⟨j + 1, _, by omega, by go_num, HS.out⟩
      case measure => simp [intOf]; omega
    · have hj' : j = N := by omega
      subst hj'
      have hd : decide ((j : Int) ≤ n) = false := decide_eq_false (by omega)
      have hd' : decide (j ≤ n) = false := decide_eq_false (by omega)
      rcases ownsRow_forms HP.out.own with ⟨_, h0⟩ | ⟨g', cap', rfl⟩
      · omega
      clear hNn
      go_wp2
      go_ret
      exact ⟨g', cap', rs, rfl, HP.out.done, HP.out.frame⟩
end Go.Proofs.YtbokhofdgdcpdaaDoor

/- Contracts of the reference's tables: same, set, both. -/
namespace Go.Proofs.YtbokhofdgdcpdaaDoor
open Go.RowKit Go.Lib Go.Joins

/-- the part of a table ahead of a place -/
def mTo (M : Nat → Nat → Bool) (p q a b : Nat) : Bool := (decide (a < p) || (decide (a = p) && decide (b < q))) && M a b
theorem mTo_none (N : Nat) (M : Nat → Nat → Bool) : Alike N (fun _ _ => false) (mTo M 0 0) := fun a b _ _ => by simp [mTo]
theorem mTo_put {N : Nat} {M : Nat → Nat → Bool} {p q : Nat} {x : Bool} (hx : x = M p q) : Alike N (fun a b => if a = p ∧ b = q then x else mTo M p q a b) (mTo M p (q + 1)) := fun a b _ _ => by
  subst hx
  simp only [mTo]
  by_cases e : a = p
  · subst e
    by_cases e2 : b = q
    · subst e2; simp
    · have h1 : decide (b < q) = decide (b < q + 1) := by simp; omega
      simp [e2, h1]
  · simp [e]
theorem mTo_row {N : Nat} {M : Nat → Nat → Bool} {p : Nat} : Alike N (mTo M p N) (mTo M (p + 1) 0) := fun a b _ hb => by
  simp only [mTo]
  by_cases e : a < p
  · simp [e, show a < p + 1 by omega]
  · by_cases e2 : a = p
    · subst e2; simp [hb]
    · simp [e, e2, show ¬ a < p + 1 by omega]
theorem mTo_all {N : Nat} {M : Nat → Nat → Bool} : Alike N (mTo M N 0) M := fun a b ha _ => by simp [mTo, ha]

set_option maxHeartbeats 2000000 in
set_option maxRecDepth 100000 in
theorem msame_calls (s : ByteArray) (w : World) (hs : s.size ≤ 1000) : Calls Tryd.prog 95 #[.string s] w (RetM w (s.size + 1) mSame) := by
  have H0 := hidden (none_calls s w hs)
  obtain ⟨n, hn⟩ : ∃ n, n = s.size := ⟨_, rfl⟩
  rw [← hn] at hs H0 ⊢
  obtain ⟨N, hN⟩ : ∃ N, N = n + 1 := ⟨_, rfl⟩
  rw [← hN] at H0 ⊢
  have hnn : s.size = n := hn.symm
  have hNle : N ≤ 1001 := by omega
  have HN := hidden hN
  clear hN hn
  go_enter Tryd.func95, Tryd.ntmps95
  go_wp2_with fail
  refine H0.out.mono ?_
  rintro e w1 ⟨g, cap, rs, rfl, ht, hb⟩
  have HT := hidden ht
  have HB := hidden hb
  clear ht hb
  go_wp2
  go_loopw [4] (fun i wr => ∃ j : Nat, j ≤ N ∧ i = .int .i64 j ∧ TabW wr w.heap.size g cap rs N (mTo mSame j 0) ∧ Below w.heap.size w wr) (fun i _ => N - (intOf i).toNat)
  case atStart => exact ⟨0, by omega, rfl, HT.out.congr (mTo_none N _), HB.out⟩
  case round =>
    obtain ⟨j, hj, rfl, ht, hb⟩ := hrel
    have HT1 := hidden ht
    have HB1 := hidden hb
    clear ht hb
    by_cases hlt : j < N
    · have hNn := HN.out
      have hd : decide ((j : Int) ≤ n) = true := decide_eq_true (by omega)
      have hd' : decide (j ≤ n) = true := decide_eq_true (by omega)
      have c1 := HT1.out.cell1 hlt
      have c2 := HT1.out.cell2 hlt hlt
      have f2 := HT1.out.frozen2 j hlt
      have hset := (HT1.out.set hlt j true).congr (M' := mTo mSame (j + 1) 0) (fun a b ha hb' => by
        simp only [mTo, mSame]
        by_cases e : a = j
        · subst e
          by_cases e2 : b = a
          · subst e2; simp
          · have : ¬ a = b := fun h => e2 h.symm
            simp [e2, this]
        · have : decide (a < j) = decide (a < j + 1) := by simp; omega
          simp [e, this])
      have HS := hidden hset
      have hlow := HT1.out.low j hlt
      have HB2 := hidden (HB1.out.setCell (p := ⟨rs.getD j 0, j, none⟩) hlow (.bool true))
      generalize rs.getD j 0 = c at *
      clear hset hNn
      go_wp2
      go_roundw
      case rel => exact ⟨j + 1, by omega, by go_num, HS.out, HB2.out⟩
      case measure => simp [intOf]; omega
    · obtain rfl : j = N := by omega
      have hNn := HN.out
      have hd : decide ((j : Int) ≤ n) = false := decide_eq_false (by omega)
      have hd' : decide (j ≤ n) = false := decide_eq_false (by omega)
      clear hNn
      go_wp2
      go_ret
      exact ⟨g, cap, rs, rfl, HT1.out.congr mTo_all, HB1.out⟩

/-- the bytes of a text -/
def byN (s : ByteArray) : List Nat := s.data.toList.map UInt8.toNat
theorem byN_len (s : ByteArray) : (byN s).length = s.size := by simp [byN]
theorem byN_at (s : ByteArray) (i : Nat) (h : i < s.size) : (byN s).getD i 0 = s[i].toNat := by
  have h' : i < s.data.size := h
  have e : s.data[i]? = some s.data[i] := by simp
  simp only [byN, List.getD_eq_getElem?_getD, List.getElem?_map, Array.getElem?_toList, e]
  rfl
theorem byN_lt (s : ByteArray) : ∀ c ∈ byN s, c < 256 := fun c hc => by
  simp only [byN, List.mem_map] at hc
  obtain ⟨b, _, rfl⟩ := hc
  exact UInt8.toNat_lt b

set_option maxHeartbeats 4000000 in
set_option maxRecDepth 100000 in
theorem mset_calls (f : Nat → Bool) (s : ByteArray) (w : World) (hs : s.size ≤ 1000) : Calls Tryd.prog 96 #[(.agg #[.int .u64 (word (f) 0), .int .u64 (word (f) 1), .int .u64 (word (f) 2), .int .u64 (word (f) 3)]), .string s] w (RetM w (s.size + 1) (mSet f (byN s))) := by
  have H0 := hidden (none_calls s (w.alloc (.cells #[.int .u64 (word (f) 0), .int .u64 (word (f) 1), .int .u64 (word (f) 2), .int .u64 (word (f) 3)] 28)) hs)
  have HL := hidden (byN_len s)
  have HA := hidden (byN_at s)
  have hSA := SetAt.new w f
  obtain ⟨N, hN⟩ : ∃ N, N = s.size + 1 := ⟨_, rfl⟩
  rw [← hN] at H0 ⊢
  have hNle : N ≤ 1001 := by omega
  have HN := hidden hN
  have HSA := hidden hSA
  obtain ⟨M, hM⟩ : ∃ M, M = mSet f (byN s) := ⟨_, rfl⟩
  rw [← hM]
  have HM := hidden hM
  clear hN hM hSA
  go_enter Tryd.func96, Tryd.ntmps96
  go_wp2_with fail
  refine H0.out.mono ?_
  rintro e w1 ⟨g, cap, rs, rfl, ht, hb⟩
  have hbase : (w.alloc (.cells #[.int .u64 (word (f) 0), .int .u64 (word (f) 1), .int .u64 (word (f) 2), .int .u64 (word (f) 3)] 28)).heap.size = w.heap.size + 1 := by simp
  rw [hbase] at ht hb
  have HT := hidden ht
  have HB := hidden (below_then ((Below.refl w.heap.size w).alloc (Nat.le_refl _) (.cells #[.int .u64 (word (f) 0), .int .u64 (word (f) 1), .int .u64 (word (f) 2), .int .u64 (word (f) 3)] 28)) (by simp) (by rw [hbase]; exact hb))
  have HSB := hidden (show SetAt w1 w.heap.size f from (hb.block _ (Nat.lt_succ_self _)).trans HSA.out)
  clear ht hb hbase
  go_wp2
  go_loopw [6] (fun i wr => ∃ j : Nat, j ≤ s.size ∧ i = .int .i64 j ∧ TabW wr (w.heap.size + 1) g cap rs N (mTo M j 0) ∧ SetAt wr w.heap.size f ∧ Below w.heap.size w wr) (fun i _ => s.size - (intOf i).toNat)
  case atStart => exact ⟨0, by omega, rfl, HT.out.congr (mTo_none N _), HSB.out, HB.out⟩
  case round =>
    obtain ⟨j, hj, rfl, ht, hsa, hb⟩ := hrel
    have HT1 := hidden ht
    have HB1 := hidden hb
    have HS1 := hidden hsa
    clear ht hb hsa
    by_cases hlt : j < s.size
    · have hNn := HN.out
      obtain ⟨c0, c1, c2, c3, _, _, _, _⟩ := HS1.out.facts
      have hb256 : s[j].toNat < 256 := UInt8.toNat_lt _
      have HMJ := hidden (show M j (j + 1) = f (s[j]).toNat by
        rw [HM.out]
        simp only [mSet, HL.out, HA.out j hlt]
        simp [hlt])
      have HMO := hidden (show ∀ b, b ≠ j + 1 → M j b = false from fun b hb => by rw [HM.out]; simp [mSet, hb])
      obtain ⟨c, hc⟩ : ∃ c, c = rs.getD j 0 := ⟨_, rfl⟩
      obtain ⟨j1, hj1⟩ : ∃ j1, j1 = j + 1 := ⟨_, rfl⟩
      have d1 := HT1.out.cell1 (p := j) (by omega)
      rw [← hc] at d1
      have hw : IntKind.i64.wrap ((j : Int) + 1) = (j1 : Int) := by rw [IntKind.wrap_i64]; omega
      have hJ1 : j1 < N := by omega
      have hJ : j < N := by omega
      have hJle : j ≤ 1000 := by omega
      have key := hidden (show ∀ w2, Below wr.drew.heap.size wr.drew w2 → (w2.cell? ⟨g, j, none⟩ = some (.slice (some ⟨c, 0, none⟩) N N) ∧ (∃ u, w2.cell? ⟨c, j1, none⟩ = some u) ∧ w2.frozen? ⟨c, j1, none⟩ = false) ∧
          TabW (w2.setCell ⟨c, j1, none⟩ (.bool (f s[j].toNat))) (w.heap.size + 1) g cap rs N (mTo M j1 0) ∧ SetAt (w2.setCell ⟨c, j1, none⟩ (.bool (f s[j].toNat))) w.heap.size f ∧ Below w.heap.size w (w2.setCell ⟨c, j1, none⟩ (.bool (f s[j].toNat))) from fun w2 hb2 => by
        have t2 := HT1.out.drew.below hb2
        have s2 := SetAt.below (show SetAt wr.drew w.heap.size f from HS1.out) hb2
        have b2 := below_then HB1.out.drew (show w.heap.size ≤ wr.drew.heap.size from HB1.out.size) hb2
        have hjN : j < N := by omega
        have hlow := t2.low j hjN
        rw [hc]
        refine ⟨⟨t2.cell1 hjN, ⟨_, t2.cell2 hjN hJ1⟩, t2.frozen2 j1 hjN⟩, (t2.set hjN j1 _).congr fun a b ha hb => ?_, ?_, b2.setCell (p := ⟨rs.getD j 0, j1, none⟩) (show w.heap.size ≤ rs.getD j 0 by omega) _⟩
        · simp only [mTo]
          by_cases e : a = j
          · subst e
            have e3 : decide (a < j1) = true := decide_eq_true (by omega)
            by_cases e2 : b = j1
            · subst e2
              have := HMJ.out
              rw [← hj1] at this
              simp [e3, this]
            · have := HMO.out b (by omega)
              simp [e2, this]
          · have : decide (a < j) = decide (a < j1) := by simp; omega
            simp [e, this]
        · exact (heap_setCell_other w2 _ w.heap.size _ (show w.heap.size ≠ rs.getD j 0 by omega)).trans s2)
      have HC := hidden hc
      have HJ1 := hidden hj1
      clear hNn hc hj1
      go_wp2
      go_region_with (go_at_call 23; refine (rhas_nat f s[j].toNat _ hb256).mono ?_; rintro e w2 ⟨rfl, hb2⟩; have HK := hidden (key.out w2 hb2); obtain ⟨d2, ⟨u, d3⟩, d4⟩ := HK.out.1; clear hb2)
      all_goals
        go_wp2
        go_roundw
        case rel => exact ⟨j1, by have := HJ1.out; omega, by first | rfl | (rw [HJ1.out]; go_num), HK.out.2.1, HK.out.2.2.1, HK.out.2.2.2⟩
        case measure => have := HJ1.out; simp [intOf]; omega
    · obtain rfl : j = s.size := by omega
      have HE := hidden (fun a b (ha : a < s.size + 1) (hb : b < s.size + 1) => (show mTo M s.size 0 a b = M a b by
        simp only [mTo]
        by_cases e : a < s.size
        · simp [e]
        · rw [HM.out]
          simp [mSet, HL.out, e]))
      rw [← HN.out] at HE
      go_wp2
      go_ret
      refine ⟨g, cap, rs, rfl, ?_, HB1.out⟩
      exact (HT1.out.congr HE.out).lower (Nat.le_succ _)
end Go.Proofs.YtbokhofdgdcpdaaDoor
