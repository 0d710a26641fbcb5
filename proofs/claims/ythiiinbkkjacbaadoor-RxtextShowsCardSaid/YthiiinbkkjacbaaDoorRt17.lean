/- TxtKnows, TxtOpen, TxtRefK, TxtRefB, put together. -/
import Derived.Test.YthiiinbkkjacbaaDoorRt12
import Derived.Test.YthiiinbkkjacbaaDoorRt16
import Derived.Test.YthiiinbkkjacbaaDoorTie
import Derived.Test.YthiiinbkkjacbaaDoorCards
import Derived.Laws.IdiomArrays
import Derived.Deep.Slices
import Derived.LaidMore
import Derived.Lay
import Derived.Lib.LaidTab
import Derived.SevenTiedAt
import Derived.Stop.Joined
/- What every statement knows besides: three concrete answers. -/
namespace Go.Proofs.YthiiinbkkjacbaaDoor
open Go.RowKit Go.Lib Go.Joins

def kIn : List UInt8 := [97, 40, 98, 124, 99, 41, 42]
def kTree : Ex := .cat (.set (fOne 97)) (.un 5 (.alt (.set (fOne 98)) (.set (fOne 99))))
theorem k_one : readR kIn = (ops kTree, 7, 0) := by
  have h : showE kTree = kIn := by decide +kernel
  have := show_read kTree ⟨trivial, .inl rfl, trivial, trivial⟩
  rw [h] at this
  unfold readR
  rw [if_neg (by decide), this]
  rfl
theorem k_two : readR [91, 98, 45, 97, 93] = ([], 3, 3) := by
  have h : readV [91, 98, 45, 97, 93] = (none, 3) := by
    have h1 : (readV [91, 98, 45, 97, 93]).2 = 3 := by decide +kernel
    have h2 : (readV [91, 98, 45, 97, 93]).1.isNone = true := by decide +kernel
    generalize readV [91, 98, 45, 97, 93] = r at *
    obtain ⟨a, b⟩ := r
    cases a
    · simp only at h1
      rw [h1]
    · simp at h2
  unfold readR
  rw [if_neg (by decide), h]
theorem ops_wide : ∀ e : Ex, ∀ s ∈ ops e, s.wide := by
  have kw : ∀ k, (kStp k).wide := fun k => by simp [Stp.wide, kStp]
  intro e
  induction e with
  | set f =>
    intro s hs
    simp only [ops, List.mem_singleton] at hs
    subst hs
    have h0 := word_lt f 0
    have h1 := word_lt f 1
    have h2 := word_lt f 2
    have h3 := word_lt f 3
    exact ⟨by simp only [sStp]; omega, by simp only [sStp]; omega, by simp only [sStp]; omega, by simp only [sStp]; omega⟩
  | emp =>
    intro s hs
    simp only [ops, List.mem_singleton] at hs
    subst hs
    exact kw _
  | cat a b iha ihb =>
    intro s hs
    simp only [ops, List.mem_append, List.mem_singleton] at hs
    rcases hs with (hs | hs) | rfl
    · exact iha s hs
    · exact ihb s hs
    · exact kw _
  | alt a b iha ihb =>
    intro s hs
    simp only [ops, List.mem_append, List.mem_singleton] at hs
    rcases hs with (hs | hs) | rfl
    · exact iha s hs
    · exact ihb s hs
    · exact kw _
  | un k a iha =>
    intro s hs
    simp only [ops, List.mem_append, List.mem_singleton] at hs
    rcases hs with hs | rfl
    · exact iha s hs
    · exact kw _
theorem ops_meas {e : Ex} (he : e.ok) (hl : (ops e).length ≤ 512) : (measV (ops e)).2 = 0 := by
  rw [expr_meas (ops_expr e he) hl]
theorem k_show : showL (ops kTree) = kIn := by decide +kernel
theorem k_read1 (w : World) (hs : Signs w) : Calls Tryd.prog 12 #[.string ⟨#[97, 40, 98, 124, 99, 41, 42]⟩] w fun e w' => (∃ v, e = .returned (.tuple #[v, .int .i64 7, .int .i64 0]) ∧ RowX w' w.heap.size v (ops kTree)) ∧ Below w.heap.size w w' := by
  refine (read_calls ⟨#[97, 40, 98, 124, 99, 41, 42]⟩ w hs).mono ?_
  rintro e w' ⟨⟨v, he, hv⟩, hb⟩
  rw [show readR (⟨#[97, 40, 98, 124, 99, 41, 42]⟩ : ByteArray).data.toList = (ops kTree, 7, 0) from k_one] at he hv
  exact ⟨⟨v, he, hv⟩, hb⟩
theorem k_read2 (w : World) (hs : Signs w) : Calls Tryd.prog 12 #[.string ⟨#[91, 98, 45, 97, 93]⟩] w fun e w' => (∃ v, e = .returned (.tuple #[v, .int .i64 3, .int .i64 3]) ∧ RowX w' w.heap.size v []) ∧ Below w.heap.size w w' := by
  refine (read_calls ⟨#[91, 98, 45, 97, 93]⟩ w hs).mono ?_
  rintro e w' ⟨⟨v, he, hv⟩, hb⟩
  rw [show readR (⟨#[91, 98, 45, 97, 93]⟩ : ByteArray).data.toList = ([], 3, 3) from k_two] at he hv
  exact ⟨⟨v, he, hv⟩, hb⟩
theorem k_shown {v : Value} {w : World} {base : Nat} (h : ReadsX w base v (ops kTree)) (ht : Tab w) (hs : Signs w) : Calls Tryd.prog 7 #[v] w fun e w' => e = .returned (.string ⟨#[97, 40, 98, 124, 99, 41, 42]⟩) ∧ Below w.heap.size w w' := by
  have := show_slX h (fun b hb => hb.2) ht hs (ops_meas ⟨trivial, .inl rfl, trivial, trivial⟩ (by decide)) (ops_wide _)
  rw [k_show] at this
  exact this
set_option maxHeartbeats 2000000 in
set_option maxRecDepth 100000 in
theorem knows_calls (w : World) (ht : Tab w) (hs : Signs w) : Calls Tryd.prog 6 #[] w fun e w' => e = .returned (.bool true) ∧ Below w.heap.size w w' := by
  have H1 := hidden (k_read1 w hs)
  have HT := hidden ht
  have HS := hidden hs
  have hq := text_same ⟨#[97, 40, 98, 124, 99, 41, 42]⟩
  clear ht hs
  go_enter Tryd.func6, Tryd.ntmps6
  go_wp2_with fail
  refine H1.out.mono ?_
  rintro e w1 ⟨⟨v, rfl, hv⟩, hb1⟩
  have HV := hidden hv.reads
  have HB1 := hidden hb1
  have H2 := hidden (k_read2 w1 (HS.out.below hb1))
  clear hv hb1
  go_wp2_with fail
  refine H2.out.mono ?_
  rintro e w2 ⟨⟨v2, rfl, hv2⟩, hb2⟩
  have HV2 := hidden (HV.out.kept hb2)
  have HB2 := hidden (below_after HB1.out hb2)
  have H3 := hidden (k_shown HV2.out (HT.out.below HB2.out) (HS.out.below HB2.out))
  obtain ⟨a, cap, rfl, hl, hcap, _, hR⟩ := HV2.out
  obtain ⟨b, off, rfl, hCb, hc⟩ := hR.2 (by decide)
  have c3 : w2.cell? ⟨b, off + 15, none⟩ = some (.int .i64 4) := (hc 3 (by decide)).1
  have c4 : w2.cell? ⟨b, off + 20, none⟩ = some (.int .i64 5) := (hc 4 (by decide)).1
  have c5 : w2.cell? ⟨b, off + 25, none⟩ = some (.int .i64 3) := (hc 5 (by decide)).1
  have h6 : (ops kTree).length = 6 := rfl
  rw [h6] at H3 hl ⊢
  clear hR hc hCb HV HV2 hv2 hb2 h6
  go_wp2_with fail
  refine H3.out.mono ?_
  rintro e w3 ⟨rfl, hb3⟩
  go_wp2
  go_ret
  exact ⟨rfl, below_after HB2.out hb3⟩
end Go.Proofs.YthiiinbkkjacbaaDoor

/- What comes in (steps, a set), the two listed tables as they are laid, the card out of the row. -/
namespace Go.Proofs.YthiiinbkkjacbaaDoor
open Go.ChangeShapes Go.WideShapes Go.ChangeAt Go.RowKit Go.Deep Go.Joins
set_option maxRecDepth 100000

theorem list4 {α : Type} (l : List α) (h : l.length = 4) : ∃ a b c d, l = [a, b, c, d] := by
  match l, h with
  | [a, b, c, d], _ => exact ⟨a, b, c, d, rfl⟩
theorem wf_u64 {n : Int} (h : (Lit.int .u64 n).wf = true) : ∃ m : Nat, n = m ∧ m < 18446744073709551616 := by
  have := bounds_u64 h
  exact ⟨n.toNat, by omega, by omega⟩
/-- four cells that read as an array of four numbers are the words of a set -/
theorem trod_set {H : Type} {enc : TypeId × Value → H} {w : World} {base : Nat} {sp : Nat → Bool} {hd : Bool} {fuel : Nat} {cs : List Value} {x : DataW H × List MemPlace} (hl : cs.length = 4) (h : DataW.trod enc Tryd.prog w base sp hd fuel 25 cs = some x) :
    ∃ f : Nat → Bool, cs = [.int .u64 (word (f) 0), .int .u64 (word (f) 1), .int .u64 (word (f) 2), .int .u64 (word (f) 3)] := by
  obtain ⟨c0, c1, c2, c3, rfl⟩ := list4 cs hl
  obtain ⟨y0, y1, y2, y3, m, hx, h0, h1, h2, h3⟩ := trod_array4 Tryd.underlying25 (by kernel_rfl) h
  obtain ⟨x0, e0, rfl, w0⟩ := DataW.trod_int Tryd.underlying23 h0
  obtain ⟨x1, e1, rfl, w1⟩ := DataW.trod_int Tryd.underlying23 h1
  obtain ⟨x2, e2, rfl, w2⟩ := DataW.trod_int Tryd.underlying23 h2
  obtain ⟨x3, e3, rfl, w3⟩ := DataW.trod_int Tryd.underlying23 h3
  simp at e0 e1 e2 e3
  subst e0 e1 e2 e3
  obtain ⟨a, rfl, ha⟩ := wf_u64 w0
  obtain ⟨b, rfl, hb⟩ := wf_u64 w1
  obtain ⟨c, rfl, hc⟩ := wf_u64 w2
  obtain ⟨d, rfl, hd'⟩ := wf_u64 w3
  obtain ⟨m0, m1, m2, m3⟩ := word_mem ha hb hc hd'
  exact ⟨mem a b c d, by rw [m0, m1, m2, m3]⟩
theorem open_set {H : Type} {enc : TypeId × Value → H} {w : World} {b0 : Nat} {v : Value} {d : DataW H} {p : List MemPlace} {base : Nat} {sp : Nat → Bool} {hd : Bool}
    (hv : Value.okWide Tryd.prog w .any b0 25 v) (h : DataW.Trod enc Tryd.prog w base sp hd 25 v d p) : ∃ f : Nat → Bool, v = (.agg #[.int .u64 (word (f) 0), .int .u64 (word (f) 1), .int .u64 (word (f) 2), .int .u64 (word (f) 3)]) := by
  obtain ⟨cs, rfl, hsz, _⟩ : ∃ cs, v = .agg cs ∧ cs.size = Tryd.prog.cellsOf 25 ∧ Row.okWide Tryd.prog w .any b0 25 cs := by
    simpa [Value.okWide, Tryd.underlying25] using hv
  have hc : Tryd.prog.cellsOf 25 = 4 := by kernel_rfl
  obtain ⟨fuel, hf⟩ := h
  obtain ⟨f, e⟩ := trod_set (by simpa [Value.cells, hc] using hsz) hf
  refine ⟨f, ?_⟩
  obtain ⟨l⟩ := cs
  have e : l = [.int .u64 (word (f) 0), .int .u64 (word (f) 1), .int .u64 (word (f) 2), .int .u64 (word (f) 3)] := e
  rw [e]
/-- the numbers of a step fit their types -/
def Stp.fit (s : Stp) : Prop := (-9223372036854775808 ≤ s.k ∧ s.k ≤ 9223372036854775807) ∧ (0 ≤ s.a ∧ s.a ≤ 18446744073709551615) ∧ (0 ≤ s.b ∧ s.b ≤ 18446744073709551615) ∧ (0 ≤ s.c ∧ s.c ≤ 18446744073709551615) ∧ (0 ≤ s.d ∧ s.d ≤ 18446744073709551615)
theorem list5 {α : Type} (l : List α) (h : l.length = 5) : ∃ a b c d e, l = [a, b, c, d, e] := by
  match l, h with
  | [a, b, c, d, e], _ => exact ⟨a, b, c, d, e, rfl⟩
theorem wf_u64b {n : Int} (h : (Lit.int .u64 n).wf = true) : 0 ≤ n ∧ n ≤ 18446744073709551615 := by
  have := bounds_u64 h
  omega
theorem trod_four {H : Type} {enc : TypeId × Value → H} {w : World} {base : Nat} {sp : Nat → Bool} {hd : Bool} {fuel : Nat} {c0 c1 c2 c3 : Value} {x : DataW H × List MemPlace} (h : DataW.trod enc Tryd.prog w base sp hd fuel 25 [c0, c1, c2, c3] = some x) :
    ∃ a b c d : Int, c0 = .int .u64 a ∧ c1 = .int .u64 b ∧ c2 = .int .u64 c ∧ c3 = .int .u64 d ∧ (0 ≤ a ∧ a ≤ 18446744073709551615) ∧ (0 ≤ b ∧ b ≤ 18446744073709551615) ∧ (0 ≤ c ∧ c ≤ 18446744073709551615) ∧ (0 ≤ d ∧ d ≤ 18446744073709551615) := by
  obtain ⟨y0, y1, y2, y3, m, hx, h0, h1, h2, h3⟩ := trod_array4 Tryd.underlying25 (by kernel_rfl) h
  obtain ⟨x0, e0, rfl, w0⟩ := DataW.trod_int Tryd.underlying23 h0
  obtain ⟨x1, e1, rfl, w1⟩ := DataW.trod_int Tryd.underlying23 h1
  obtain ⟨x2, e2, rfl, w2⟩ := DataW.trod_int Tryd.underlying23 h2
  obtain ⟨x3, e3, rfl, w3⟩ := DataW.trod_int Tryd.underlying23 h3
  simp at e0 e1 e2 e3
  exact ⟨x0, x1, x2, x3, e0, e1, e2, e3, wf_u64b w0, wf_u64b w1, wf_u64b w2, wf_u64b w3⟩
theorem trod_stp {H : Type} {enc : TypeId × Value → H} {w : World} {base : Nat} {sp : Nat → Bool} {hd : Bool} {fuel : Nat} {cs : List Value} {x : DataW H × List MemPlace} (hl : cs.length = 5) (h : DataW.trod enc Tryd.prog w base sp hd fuel 39 cs = some x) :
    ∃ s : Stp, cs = s.cells ∧ s.fit := by
  obtain ⟨c0, c1, c2, c3, c4, rfl⟩ := list5 cs hl
  obtain ⟨y0, y1, n, _, _, h0, h1⟩ := trod_struct2 Tryd.underlying39 h
  have ck : Tryd.prog.cellsOf 37 = 1 := by kernel_rfl
  have cs : Tryd.prog.cellsOf 25 = 4 := by kernel_rfl
  simp [ck, cs] at h0 h1
  obtain ⟨k, e0, _, w0⟩ := DataW.trod_int Tryd.underlying37 h0
  simp at e0
  obtain ⟨a, b, c, d, rfl, rfl, rfl, rfl, f1, f2, f3, f4⟩ := trod_four h1
  exact ⟨⟨k, a, b, c, d⟩, by rw [e0]; rfl, wf_i64 w0, f1, f2, f3, f4⟩
theorem open_slX {H : Type} {enc : TypeId × Value → H} {W : World} {v : Value} {fuel : Nat} {x : DataW H × List MemPlace} (h : DataW.trod enc Tryd.prog W 0 (fun _ => true) true fuel 22 [v] = some x) :
    ∃ L, SlX (fun b => b < W.heap.size) W v L ∧ ∀ s ∈ L, s.fit := by
  have hc : Tryd.prog.cellsOf 39 = 5 := by kernel_rfl
  rcases open_slice Tryd.underlying22 h with ⟨hcs, _⟩ | ⟨ad, len, cap, m, n, D, Pl, hcs, _, hl, hm, hmm, _, hi⟩
  · simp at hcs
    subst hcs
    exact ⟨[], ⟨none, 0, rfl, Nat.le_refl _, by decide, fun _ => rfl, rfl, fun h => absurd h (by simp)⟩, fun s hs => by cases hs⟩
  · simp at hcs
    subst hcs
    have hm' : m = cap := by simpa using hmm
    subst hm'
    have each : ∀ i, i < len → ∃ s : Stp, (∀ j u, s.cells[j]? = some u → W.cell? (ad.add (i * 5 + j)) = some u) ∧ s.fit := fun i hi' => by
      obtain ⟨cs', hcs', ht⟩ := hi i (by omega)
      rw [hc] at hcs'
      obtain ⟨_, hlen, hcell⟩ := World.cells?_some hcs'
      obtain ⟨s, rfl, hf⟩ := trod_stp hlen ht
      refine ⟨s, fun j u hj => ?_, hf⟩
      have hj' : j < 5 := by
        have := (List.getElem?_eq_some_iff.1 hj).1
        simpa [Stp.cells] using this
      have := hcell j hj'
      rw [Go.Deep.add_add] at this
      rw [this]
      exact hj
    obtain ⟨q, hq⟩ := choose_lt each
    have hlen : ((List.range len).map q).length = len := by simp
    refine ⟨(List.range len).map q, ⟨some ad, m, by rw [hlen], by rw [hlen]; exact hl, hm, (fun e => by cases e), ?_⟩, fun s hs => ?_⟩
    · rw [hlen]
      refine ⟨hlen, fun hp => ?_⟩
      obtain ⟨b, off, spot⟩ := ad
      have h0 := (hq 0 hp).1 0 _ rfl
      have hspot : spot = none := by simpa [Addr.add] using World.cell?_spot h0
      subst hspot
      rw [Addr.add_lit] at h0
      refine ⟨b, off, rfl, cell_lt h0, fun i hi' => ?_⟩
      have hg : ((List.range len).map q).getD i default = q i := by simp [List.getD_eq_getElem?_getD, hi']
      rw [hg]
      have := fun j u hj => by
        have h2 := (hq i hi').1 j u hj
        rwa [Addr.add_lit] at h2
      exact ⟨this 0 _ rfl, this 1 _ rfl, this 2 _ rfl, this 3 _ rfl, this 4 _ rfl⟩
    · obtain ⟨i, hi', rfl⟩ := List.mem_map.1 hs
      exact (hq i (List.mem_range.1 hi')).2
theorem open_rx {H : Type} {enc : TypeId × Value → H} {W : World} {a : Option Addr} {len cap : Nat} {d : DataW H} {p : List MemPlace}
    (h : DataW.Trod enc Tryd.prog W 0 (fun _ => true) true 22 (.slice a len cap) d p) : ∃ L, SlX (fun b => b < W.heap.size) W (.slice a len cap) L ∧ ∀ s ∈ L, s.fit := by
  obtain ⟨fuel, hf⟩ := h
  exact open_slX (by simpa [Value.cells] using hf)
theorem sign_cells {H : Type} {enc : TypeId × Value → H} {w : World} {base : Nat} {sp : Nat → Bool} {hd : Bool} {fuel : Nat} {cs : List Value} {a b : Int} {p : List MemPlace}
    (h : DataW.trod enc Tryd.prog w base sp hd fuel 94 cs = some (.agg [.lit (.int .u8 a), .lit (.int .i64 b)], p)) : cs = [.int .u8 a, .int .i64 b] := by
  obtain ⟨y0, y1, n, hx, hl, h0, h1⟩ := trod_struct2 Tryd.underlying94 h
  have hc : Tryd.prog.cellsOf 94 = 2 := by kernel_rfl
  have hc1 : Tryd.prog.cellsOf 5 = 1 := by kernel_rfl
  have hc2 : Tryd.prog.cellsOf 37 = 1 := by kernel_rfl
  rw [hc] at hl
  match cs, hl with
  | [c0, c1], _ =>
    simp only [hc1, hc2, List.drop_zero, List.drop_succ_cons, List.take_succ_cons, List.take_zero] at h0 h1
    obtain ⟨x0, e0, rfl, _⟩ := DataW.trod_int Tryd.underlying5 h0
    obtain ⟨x1, e1, rfl, _⟩ := DataW.trod_int Tryd.underlying37 h1
    simp at e0 e1 hx
    obtain ⟨⟨rfl, rfl⟩, _⟩ := hx
    rw [e0, e1]
theorem signs_laid {W : World} {g : Nat} {t : TypeId} {cs : Array Value} {fuel : Nat} {p : List MemPlace} (hg : Tryd.prog.globalNamed "facsimile/rxtext.signs" = some g) (ht : (Tryd.prog.globals[g]?).map (·.type) = some t) (hv : W.var? Tryd.prog "facsimile/rxtext.signs" = some cs)
    (hd : DataW.trod (fun _ => ()) Tryd.prog W 0 (fun _ => true) false fuel t cs.toList = some (.agg [.agg [.lit (.int .u8 42), .lit (.int .i64 5)], .agg [.lit (.int .u8 43), .lit (.int .i64 6)], .agg [.lit (.int .u8 63), .lit (.int .i64 7)]], p)) : Signs W := by
  obtain rfl := Option.some.inj ((show Tryd.prog.globalNamed "facsimile/rxtext.signs" = some 0 by kernel_rfl).symm.trans hg)
  obtain rfl := Option.some.inj ((show (Tryd.prog.globals[0]?).map (·.type) = some 95 by kernel_rfl).symm.trans ht)
  obtain ⟨xs, m, _, hx, _, hxl, hi⟩ := DataW.trod_array Tryd.underlying95 hd
  have hc : Tryd.prog.cellsOf 94 = 2 := by kernel_rfl
  rw [hc] at hi
  match xs, hxl with
  | [⟨x0, p0⟩, ⟨x1, p1⟩, ⟨x2, p2⟩], _ =>
    simp at hx
    obtain ⟨⟨rfl, rfl, rfl⟩, _⟩ := hx
    have r0 := sign_cells (hi 0 (by decide))
    have r1 := sign_cells (hi 1 (by decide))
    have r2 := sign_cells (hi 2 (by decide))
    have two : ∀ (k : Nat) (a b : Value), ((cs.toList.drop k).take 2) = [a, b] → cs.toList[k]? = some a ∧ cs.toList[k + 1]? = some b := fun k a b e => by
      have e0 := congrArg (·[0]?) e
      have e1 := congrArg (·[1]?) e
      simp [List.getElem?_drop] at e0 e1
      simpa using ⟨e0, e1⟩
    have t0 := two _ _ _ r0
    have t1 := two _ _ _ r1
    have t2 := two _ _ _ r2
    have at' : ∀ j v, cs.toList[j]? = some v → W.cell? ⟨0, j, none⟩ = some v := fun j v h => by
      rw [World.var?_cell hg hv j]
      simpa using h
    exact ⟨⟨at' 0 _ t0.1, at' 1 _ t0.2⟩, ⟨at' 2 _ t1.1, at' 3 _ t1.2⟩, at' 4 _ t2.1, at' 5 _ t2.2⟩

/-- the table, out of the row's condition -/
theorem of_laid {W : World} {d d' : DataW Unit} (hd : d = Lib.tabData .u8 (Lib.deBruijn64tab.map fun n : Nat => (n : Int))) (hd' : d' = .agg [.agg [.lit (.int .u8 42), .lit (.int .i64 5)], .agg [.lit (.int .u8 43), .lit (.int .i64 6)], .agg [.lit (.int .u8 63), .lit (.int .i64 7)]])
    (h : laidMetH Tryd.prog [("math/bits.deBruijn64tab", d), ("facsimile/rxtext.signs", d')] W) : Tab W ∧ Signs W := by
  subst hd hd'
  rw [MakeChecks.laidMetH_plain _ _ _ (by kernel_rfl)] at h
  obtain ⟨ps, ⟨g, t, cs, fuel, p, q, hg, ht, hv, hd, ⟨g2, t2, cs2, fuel2, p2, q2, hg2, ht2, hv2, hd2, _, _⟩, _⟩, _, _⟩ := h
  obtain rfl := Option.some.inj ((show Tryd.prog.globalNamed "math/bits.deBruijn64tab" = some 1 by kernel_rfl).symm.trans hg)
  obtain rfl := Option.some.inj ((show (Tryd.prog.globals[1]?).map (·.type) = some 97 by kernel_rfl).symm.trans ht)
  have e := Lib.cells_of_tab Tryd.underlying97 Tryd.underlying5 (by kernel_rfl) (by kernel_rfl) hd
  refine ⟨?_, signs_laid hg2 ht2 hv2 hd2⟩
  intro j hj
  rw [World.var?_cell hg hv j]
  have : cs.toList[j]? = some (.int .u8 (Lib.deBruijn64tab.getD j 0 : Nat)) := by
    rw [e, List.getElem?_map, List.getElem?_map]
    have hl : j < Lib.deBruijn64tab.length := hj
    rw [List.getElem?_eq_getElem hl, List.getD_eq_getElem?_getD, List.getElem?_eq_getElem hl]
    rfl
  simpa using this
end Go.Proofs.YthiiinbkkjacbaaDoor

/- The reference's Of, Check and Same over lists of steps. -/
namespace Go.Proofs.YthiiinbkkjacbaaDoor
open Go.RowKit Go.Lib Go.Joins

set_option maxRecDepth 100000 in
theorem rof_calls (k : Int) (w : World) : Calls Tryd.prog 29 #[.int .i64 k] w fun e w' => e = .returned (.int .i64 (kOps k)) ∧ w = w' := by
  by_cases h : k = 1 ∨ k = 2 ∨ k = 3 ∨ k = 4 ∨ k = 5 ∨ k = 6 ∨ k = 7
  · rcases h with rfl | rfl | rfl | rfl | rfl | rfl | rfl
    all_goals
      go_enter Tryd.func29, Tryd.ntmps29
      go_wp2
      go_ret
      exact ⟨rfl, rfl⟩
  · have q1 : (k == 1) = false := by simp; omega
    have q2 : (k == 2) = false := by simp; omega
    have q3 : (k == 3) = false := by simp; omega
    have q4 : (k == 4) = false := by simp; omega
    have q5 : (k == 5) = false := by simp; omega
    have q6 : (k == 6) = false := by simp; omega
    have q7 : (k == 7) = false := by simp; omega
    have HR := hidden (show kOps k = -1 by
      unfold kOps
      rw [if_neg (by omega), if_neg (by omega), if_neg (by omega)])
    clear h
    go_enter Tryd.func29, Tryd.ntmps29
    go_wp2
    go_ret
    exact ⟨ret_i HR.out.symm, rfl⟩
theorem take_moreX (a : List Stp) (k : Nat) (h : k < a.length) : a.take (k + 1) = a.take k ++ [a.getD k default] := by
  rw [List.getD_eq_getElem?_getD, List.getElem?_eq_getElem h]
  exact (List.take_append_getElem h).symm
theorem take_eqX {a b : List Stp} (h : a.length = b.length) (k : Nat) (hk : k < a.length) (h2 : a.take k = b.take k) :
    (a.getD k default = b.getD k default → a.take (k + 1) = b.take (k + 1)) ∧ (a.getD k default ≠ b.getD k default → a ≠ b) := by
  refine ⟨fun e => ?_, fun e e' => e (by rw [e'])⟩
  rw [take_moreX a k hk, take_moreX b k (by omega), h2, e]
set_option maxHeartbeats 1000000 in
set_option maxRecDepth 100000 in
theorem rsame_rx {C C' : Nat → Prop} (a a' : Option Addr) (n n' cap cap' : Nat) (L M : List Stp) (w : World) (hl : n ≤ cap) (hcap : cap ≤ maxLen) (hS : Rxs C w a n L) (hl' : n' ≤ cap') (_ : cap' ≤ maxLen) (hT : Rxs C' w a' n' M) :
    Calls Tryd.prog 13 #[.slice a n cap, .slice a' n' cap'] w fun e w' => e = .returned (.bool (sameX L M)) ∧ Below w.heap.size w w' := by
  unfold maxLen at hcap
  have HS := hidden hS
  have HT := hidden hT
  clear hS hT
  by_cases hn : n = n'
  · subst hn
    go_enter Tryd.func13, Tryd.ntmps13
    go_wp2
    go_loopw [5] (fun i wr => ∃ k : Nat, k ≤ n ∧ i = .int .i64 k ∧ L.take k = M.take k ∧ w.heap = wr.heap ∧ Below w.heap.size w wr) (fun i _ => n - (RowKit.intOf i).toNat)
    case atStart => exact ⟨0, by omega, rfl, rfl, rfl, Below.refl _ _⟩
    case round =>
      obtain ⟨k, hk, rfl, hf, hh, hb⟩ := hrel
      have HB := hidden hb
      have HH := hidden hh
      by_cases hlt : k < n
      · obtain ⟨b, off, rfl, _, hc⟩ := HS.out.2 (by omega)
        obtain ⟨b', off', rfl, _, hc'⟩ := HT.out.2 (by omega)
        obtain ⟨x0, x1, x2, x3, x4⟩ := (hc k hlt).kept (w' := wr) (by rw [hh])
        obtain ⟨y0, y1, y2, y3, y4⟩ := (hc' k hlt).kept (w' := wr) (by rw [hh])
        have H1 := hidden (take_eqX (HS.out.1.trans HT.out.1.symm) k (by rw [HS.out.1]; exact hlt) hf)
        have hq := fun w => eq_stp w (L.getD k default) (M.getD k default)
        unfold Stp.val at hq
        clear hc hc' hb hf hh
        by_cases he : L.getD k default = M.getD k default
        · have H2 := hidden (H1.out.1 he)
          have e := (eqStp_iff _ _).2 he
          rw [e] at hq
          clear he H1 e
          generalize L.getD k default = x at *
          generalize M.getD k default = y at *
          go_wp2
          go_quiet (fail)
          go_wp2
          go_roundw
          case rel => exact ⟨k + 1, by omega, by go_num, H2.out, HH.out, below_drawn HB.out _⟩
          case measure => simp [RowKit.intOf]; omega
        · have H2 := hidden (sameX_no (H1.out.2 he))
          have e : eqStp (L.getD k default) (M.getD k default) = false := by
            rw [Bool.eq_false_iff]
            exact fun h => he ((eqStp_iff _ _).1 h)
          rw [e] at hq
          clear he H1 e
          generalize L.getD k default = x at *
          generalize M.getD k default = y at *
          go_wp2
          go_quiet (fail)
          go_wp2
          go_ret
          exact ⟨ret_b H2.out.symm, below_drawn HB.out _⟩
      · obtain rfl : k = n := by omega
        rw [List.take_of_length_le (by rw [HS.out.1]; omega), List.take_of_length_le (by rw [HT.out.1]; omega)] at hf
        have H2 : Hid (sameX L M = true) := hidden (by rw [hf]; exact sameX_yes _)
        clear hf
        go_wp2
        go_ret
        exact ⟨ret_b H2.out.symm, hb⟩
  · have H2 : Hid (sameX L M = false) := hidden (sameX_no (fun e => hn (by rw [← HS.out.1, ← HT.out.1, e])))
    have hn' : ((n : Int) == n') = false := by simp; omega
    have hn'' : (!((n : Int) == n')) = true := by rw [hn']; rfl
    go_enter Tryd.func13, Tryd.ntmps13
    go_wp2
    go_ret
    exact ⟨ret_b H2.out.symm, Below.refl _ _⟩
theorem rsame_slX {C C' : Nat → Prop} {v v' : Value} {L M : List Stp} {w : World} (h : SlX C w v L) (h' : SlX C' w v' M) :
    Calls Tryd.prog 13 #[v, v'] w fun e w' => e = .returned (.bool (sameX L M)) ∧ Below w.heap.size w w' := by
  obtain ⟨a, cap, rfl, h1, h2, _, hS⟩ := h
  obtain ⟨a', cap', rfl, h1', h2', _, hT⟩ := h'
  exact rsame_rx _ _ _ _ _ _ _ _ _ h1 h2 hS h1' h2' hT
set_option maxHeartbeats 4000000 in
set_option maxRecDepth 100000 in
theorem rcheck_rx {C : Nat → Prop} (a : Option Addr) (n cap : Nat) (L : List Stp) (w : World) (_ : n ≤ cap) (_ : cap ≤ maxLen) (hS : Rxs C w a n L) :
    Calls Tryd.prog 11 #[.slice a n cap] w fun e w' => e = .returned (.int .i64 (measV L).2) ∧ w = w' := by
  by_cases hn : 512 < n
  · have e : measV L = (0, 4) := by unfold measV; rw [if_pos (by rw [hS.1]; exact hn)]
    have HE := hidden e
    clear e hS
    go_enter Tryd.func11, Tryd.ntmps11
    go_wp2
    go_ret
    exact ⟨by rw [HE.out]; rfl, rfl⟩
  · have hM : measV L = measGo (L.drop 0) 0 0 := by
      unfold measV
      rw [if_neg (by rw [hS.1]; exact hn), List.drop_zero]
    obtain ⟨r, hr⟩ : ∃ r, r = measV L := ⟨_, rfl⟩
    rw [← hr] at hM ⊢
    have HM := hidden hM
    have HS := hidden hS
    clear hM hS hr
    go_enter Tryd.func11, Tryd.ntmps11
    go_wp2
    go_loop [3, 4] (fun p i => ∃ (k : Nat) (P H : Int), k ≤ n ∧ i = .int .i64 k ∧ p = .int .i64 P ∧ 0 ≤ P ∧ P ≤ k ∧ r = measGo (L.drop k) P H) (fun _ i => n - (RowKit.intOf i).toNat)
    case atStart => exact ⟨0, 0, 0, by omega, rfl, rfl, by omega, by omega, HM.out⟩
    case round =>
      obtain ⟨k, P, H, hk, rfl, rfl, hP0, hPk, he⟩ := hrel
      have HE := hidden he
      clear he
      by_cases hlt : k < n
      · obtain ⟨b, off, rfl, hCb, hc⟩ := HS.out.2 (by omega)
        obtain ⟨c0, c1, c2, c3, c4⟩ := hc k hlt
        have H1 := hidden (meas_step HE.out (by rw [HS.out.1]; exact hlt))
        obtain ⟨x, hx⟩ : ∃ x, x = L.getD k default := ⟨_, rfl⟩
        rw [← hx] at c0 c1 c2 c3 c4 H1
        have hO := kOps_range x.k
        have HK := hidden (rof_calls x.k)
        clear hc hCb hx
        obtain ⟨K, x1, x2, x3, x4⟩ := x
        simp only at c0 c1 c2 c3 c4 hO HK
        have hg : ((⟨K, x1, x2, x3, x4⟩ : Stp).good ↔ 0 ≤ kOps K ∧ (K = 1 ∨ (x1 = 0 ∧ x2 = 0 ∧ x3 = 0 ∧ x4 = 0))) := Iff.rfl
        have HG := hidden hg
        have hq := fun w => eq_four w x1 x2 x3 x4 0 0 0 0
        simp only [Bool.and_true] at hq
        clear hg
        have H2 : Hid ((⟨K, x1, x2, x3, x4⟩ : Stp).k = K) := hidden rfl
        rw [H2.out] at H1
        clear H2
        generalize kOps K = o at *
        have q0k : decide ((k : Int) < n) = true := decide_eq_true (by omega)
        by_cases q0 : o < 0
        · have hres := hidden (H1.out.1 (fun h => by have := (HG.out.1 h).1; omega))
          have hd0 : decide (o < 0) = true := decide_eq_true q0
          clear H1
          go_wp2_with fail
          refine (HK.out _).mono ?_
          rintro e w1 ⟨rfl, rfl⟩
          go_wp2
          go_ret
          exact ⟨by rw [hres.out]; rfl, rfl⟩
        · have hd0 : decide (o < 0) = false := decide_eq_false q0
          have hcase : (K = 1) ∨ (K ≠ 1 ∧ x1 = 0 ∧ x2 = 0 ∧ x3 = 0 ∧ x4 = 0) ∨ (K ≠ 1 ∧ ¬ (x1 = 0 ∧ x2 = 0 ∧ x3 = 0 ∧ x4 = 0)) := by
            by_cases h1 : K = 1
            · exact .inl h1
            · by_cases h2 : x1 = 0 ∧ x2 = 0 ∧ x3 = 0 ∧ x4 = 0
              · exact .inr (.inl ⟨h1, h2⟩)
              · exact .inr (.inr ⟨h1, h2⟩)
          rcases hcase with h1 | ⟨h1, h2, h3, h4, h5⟩ | ⟨h1, h2⟩
          case' inl =>
            have hgood := HG.out.2 ⟨by omega, .inl h1⟩
            have q1 : (K == 1) = true := by simp [h1]
            have q2 : (K != 1) = false := by simp [h1]
            clear hq
          case' inr.inl =>
            have hgood := HG.out.2 ⟨by omega, .inr ⟨h2, h3, h4, h5⟩⟩
            have q1 : (K == 1) = false := by simp [h1]
            have q2 : (K != 1) = true := by simp [h1]
            have q3 : (x1 == 0 && (x2 == 0 && (x3 == 0 && x4 == 0))) = true := by simp [h2, h3, h4, h5]
            rw [q3] at hq
            clear q3 h2 h3 h4 h5
          case inr.inr =>
            have hres := hidden (H1.out.1 (fun h => (HG.out.1 h).2.elim h1 h2))
            have q1 : (K == 1) = false := by simp [h1]
            have q2 : (K != 1) = true := by simp [h1]
            have q3 : (x1 == 0 && (x2 == 0 && (x3 == 0 && x4 == 0))) = false := by
              rw [Bool.eq_false_iff]
              intro h
              simp at h
              exact h2 ⟨h.1, h.2.1, h.2.2.1, h.2.2.2⟩
            rw [q3] at hq
            clear q3 h2 H1
            go_wp2_with fail
            refine (HK.out _).mono ?_
            rintro e w1 ⟨rfl, rfl⟩
            go_wp2
            go_ret
            exact ⟨by rw [hres.out]; rfl, rfl⟩
          all_goals
            have H2 := hidden (H1.out.2.1 hgood)
            have H3 := hidden (H1.out.2.2 hgood)
            clear H1 HG hgood h1
            by_cases q5 : P < o
            · have hres := hidden (H2.out q5)
              have hd5 : decide (P < o) = true := decide_eq_true q5
              clear H2 H3
              go_wp2_with fail
              refine (HK.out _).mono ?_
              rintro e w1 ⟨rfl, rfl⟩
              go_wp2
              go_ret
              exact ⟨by rw [hres.out]; rfl, rfl⟩
            · have hres := hidden (H3.out (by omega))
              have hd5 : decide (P < o) = false := decide_eq_false q5
              clear H2 H3
              go_wp2_with fail
              refine (HK.out _).mono ?_
              rintro e w1 ⟨rfl, rfl⟩
              go_wp2
              go_round
              case rel => exact ⟨k + 1, P + (1 - o), max H (P + (1 - o)), by omega, by go_num, by go_num, by omega, by omega, hres.out⟩
              case measure => simp [RowKit.intOf]; omega
      · have hres := hidden (meas_end HE.out (by rw [HS.out.1]; omega))
        have q0k : decide ((k : Int) < n) = false := decide_eq_false (by omega)
        by_cases q : P = 1
        · subst q
          rw [if_pos rfl] at hres
          go_wp2
          go_ret
          exact ⟨by rw [hres.out]; rfl, rfl⟩
        · rw [if_neg q] at hres
          have q' : (P == 1) = false := by simp [q]
          go_wp2
          go_ret
          exact ⟨by rw [hres.out]; rfl, rfl⟩
theorem rcheck_slX {C : Nat → Prop} {v : Value} {L : List Stp} {w : World} (h : SlX C w v L) :
    Calls Tryd.prog 11 #[v] w fun e w' => e = .returned (.int .i64 (measV L).2) ∧ w = w' := by
  obtain ⟨a, cap, rfl, h1, h2, _, hS⟩ := h
  exact rcheck_rx _ _ _ _ _ h1 h2 hS
end Go.Proofs.YthiiinbkkjacbaaDoor

/- The reference's Begin, at the steps of a tree. -/
namespace Go.Proofs.YthiiinbkkjacbaaDoor
open Go.RowKit Go.Lib Go.Joins

/-- block b has the steps L from place off on -/
def Lay (b off : Nat) (L : List Stp) (W : World) : Prop := b < W.heap.size ∧ ∀ i, i < L.length → RxAt W b (off + i * 5) (L.getD i default)
theorem Lay.below {b off : Nat} {L : List Stp} {W W' : World} (h : Lay b off L W) (hb : Below W.heap.size W W') : Lay b off L W' := ⟨Nat.lt_of_lt_of_le h.1 hb.size, fun i hi => (h.2 i hi).kept (hb.block b h.1)⟩
theorem getD_end (x u z : List Stp) (s : Stp) : (x ++ (u ++ [s]) ++ z).getD (x.length + u.length) default = s := by
  rw [List.getD_eq_getElem?_getD, List.getElem?_append_left (by simp), List.getElem?_append_right (by omega), List.getElem?_append_right (by omega)]
  simp
theorem ops_last : ∀ e : Ex, ∃ u s, ops e = u ++ [s] ∧ s.k = e.kind
  | .set f => ⟨[], sStp f, rfl, rfl⟩
  | .emp => ⟨[], kStp 2, rfl, rfl⟩
  | .cat a b => ⟨ops a ++ ops b, kStp 3, rfl, rfl⟩
  | .alt a b => ⟨ops a ++ ops b, kStp 4, rfl, rfl⟩
  | .un k a => ⟨ops a, kStp k, rfl, rfl⟩
theorem ops_pos (e : Ex) : 1 ≤ (ops e).length := by
  obtain ⟨u, s, h, _⟩ := ops_last e
  rw [h]
  simp
theorem at_end {L x z : List Stp} {e : Ex} {i : Nat} (hL : L = x ++ ops e ++ z) (hi : i + 1 = x.length + (ops e).length) : i < L.length ∧ (L.getD i default).k = e.kind := by
  obtain ⟨u, s, h, hs⟩ := ops_last e
  rw [h] at hL hi
  simp only [List.length_append, List.length_cons, List.length_nil] at hi
  have hi' : i = x.length + u.length := by omega
  subst hi'
  refine ⟨by rw [hL]; simp only [List.length_append, List.length_cons, List.length_nil]; omega, ?_⟩
  rw [hL, getD_end, hs]
section
variable {b off cap : Nat} {L : List Stp} {w : World}
theorem Lay.kind (h : Lay b off L w) {i : Nat} (hi : i < L.length) {k : Int} (hk : (L.getD i default).k = k) : w.cell? ⟨b, off + i * 5, none⟩ = some (.int .i64 k) := by
  rw [← hk]
  exact (h.2 i hi).1
set_option maxRecDepth 100000 in
theorem begin0 (h : Lay b off L w) {i : Nat} (hi : i < L.length) {k : Int} (hk : (L.getD i default).k = k) (ho : kOps k = 0) (_ : L.length ≤ 1000) :
    Calls Tryd.prog 34 #[.slice (some ⟨b, off, none⟩) L.length cap, .int .i64 i] w fun e w' => e = .returned (.int .i64 i) ∧ w = w' := by
  have c0 := h.kind hi hk
  have hK := rof_calls k
  rw [ho] at hK
  have HK := hidden hK
  generalize L.length = n at *
  have q0 : decide ((i : Int) < 0) = false := decide_eq_false (by omega)
  have q1 : decide ((n : Int) ≤ i) = false := decide_eq_false (by omega)
  have q2 : decide (n ≤ i) = false := decide_eq_false (by omega)
  clear h hk hK ho
  go_enter Tryd.func34, Tryd.ntmps34
  go_wp2_with fail
  refine (HK.out _).mono ?_
  rintro e w1 ⟨rfl, rfl⟩
  go_wp2
  refine wp_loop_rounds 1 ?_
  rw [rounds_succ]
  go_wp2
  go_ret
  exact ⟨rfl, rfl⟩
set_option maxRecDepth 100000 in
theorem begin1 (h : Lay b off L w) {i j y : Nat} (hi : i < L.length) {k : Int} (hk : (L.getD i default).k = k) (ho : kOps k = 1) (hl : L.length ≤ 1000) (hj : j + 1 = i) (hy : y ≤ 1000)
    (H1 : Calls Tryd.prog 34 #[.slice (some ⟨b, off, none⟩) L.length cap, .int .i64 j] w fun e w' => e = .returned (.int .i64 y) ∧ w = w') :
    Calls Tryd.prog 34 #[.slice (some ⟨b, off, none⟩) L.length cap, .int .i64 i] w fun e w' => e = .returned (.int .i64 y) ∧ w = w' := by
  have c0 := h.kind hi hk
  have hK := rof_calls k
  rw [ho] at hK
  have HK := hidden hK
  have HC := hidden H1
  generalize L.length = n at *
  have q0 : decide ((i : Int) < 0) = false := decide_eq_false (by omega)
  have q1 : decide ((n : Int) ≤ i) = false := decide_eq_false (by omega)
  have q2 : decide (n ≤ i) = false := decide_eq_false (by omega)
  have q3 : decide ((y : Int) < 0) = false := decide_eq_false (by omega)
  have hsub : IntKind.i64.wrap ((i : Int) - 1) = j := by rw [IntKind.wrap_i64]; omega
  clear h hk hK ho H1 hj
  go_enter Tryd.func34, Tryd.ntmps34
  go_wp2_with fail
  refine (HK.out _).mono ?_
  rintro e w1 ⟨rfl, rfl⟩
  go_wp2
  refine wp_loop_rounds 2 ?_
  rw [rounds_succ]
  go_wp2_with fail
  refine HC.out.mono ?_
  rintro e w1 ⟨rfl, rfl⟩
  go_wp2
  rw [rounds_succ]
  go_wp2
  go_ret
  exact ⟨rfl, rfl⟩
set_option maxRecDepth 100000 in
theorem begin2 (h : Lay b off L w) {i j y j2 y2 : Nat} (hi : i < L.length) {k : Int} (hk : (L.getD i default).k = k) (ho : kOps k = 2) (hl : L.length ≤ 1000) (hj : j + 1 = i) (hy : y ≤ 1000) (hj2 : j2 + 1 = y) (hy2 : y2 ≤ 1000)
    (H1 : Calls Tryd.prog 34 #[.slice (some ⟨b, off, none⟩) L.length cap, .int .i64 j] w fun e w' => e = .returned (.int .i64 y) ∧ w = w')
    (H2 : Calls Tryd.prog 34 #[.slice (some ⟨b, off, none⟩) L.length cap, .int .i64 j2] w fun e w' => e = .returned (.int .i64 y2) ∧ w = w') :
    Calls Tryd.prog 34 #[.slice (some ⟨b, off, none⟩) L.length cap, .int .i64 i] w fun e w' => e = .returned (.int .i64 y2) ∧ w = w' := by
  have c0 := h.kind hi hk
  have hK := rof_calls k
  rw [ho] at hK
  have HK := hidden hK
  have HC := hidden H1
  have HD := hidden H2
  generalize L.length = n at *
  have q0 : decide ((i : Int) < 0) = false := decide_eq_false (by omega)
  have q1 : decide ((n : Int) ≤ i) = false := decide_eq_false (by omega)
  have q2 : decide (n ≤ i) = false := decide_eq_false (by omega)
  have q3 : decide ((y : Int) < 0) = false := decide_eq_false (by omega)
  have q4 : decide ((y2 : Int) < 0) = false := decide_eq_false (by omega)
  have hsub : IntKind.i64.wrap ((i : Int) - 1) = j := by rw [IntKind.wrap_i64]; omega
  have hsub2 : IntKind.i64.wrap ((y : Int) - 1) = j2 := by rw [IntKind.wrap_i64]; omega
  clear h hk hK ho H1 H2 hj hj2
  go_enter Tryd.func34, Tryd.ntmps34
  go_wp2_with fail
  refine (HK.out _).mono ?_
  rintro e w1 ⟨rfl, rfl⟩
  go_wp2
  refine wp_loop_rounds 3 ?_
  rw [rounds_succ]
  go_wp2_with fail
  refine HC.out.mono ?_
  rintro e w1 ⟨rfl, rfl⟩
  go_wp2
  rw [rounds_succ]
  go_wp2_with fail
  refine HD.out.mono ?_
  rintro e w1 ⟨rfl, rfl⟩
  go_wp2
  rw [rounds_succ]
  go_wp2
  go_ret
  exact ⟨rfl, rfl⟩
theorem rbegin_calls (h : Lay b off L w) (hl : L.length ≤ 1000) : ∀ (e : Ex), e.ok → ∀ (x z : List Stp) (i : Nat), L = x ++ ops e ++ z → i + 1 = x.length + (ops e).length →
    Calls Tryd.prog 34 #[.slice (some ⟨b, off, none⟩) L.length cap, .int .i64 i] w fun e' w' => e' = .returned (.int .i64 x.length) ∧ w = w'
  | .set f, _, x, z, i, hL, hi => by
    obtain ⟨h1, h2⟩ := at_end hL hi
    have hx : i = x.length := by simp [ops] at hi; omega
    subst hx
    exact begin0 h h1 h2 rfl hl
  | .emp, _, x, z, i, hL, hi => by
    obtain ⟨h1, h2⟩ := at_end hL hi
    have hx : i = x.length := by simp [ops] at hi; omega
    subst hx
    exact begin0 h h1 h2 rfl hl
  | .un k a, ⟨hk, ha⟩, x, z, i, hL, hi => by
    obtain ⟨h1, h2⟩ := at_end hL hi
    have hp := ops_pos a
    have hlen : (ops (.un k a)).length = (ops a).length + 1 := by simp [ops]
    rw [hlen] at hi
    have hxl : x.length ≤ 1000 := by rw [hL] at hl; simp only [List.length_append] at hl; omega
    exact begin1 (j := i - 1) h h1 h2 (by rcases hk with rfl | rfl | rfl <;> rfl) hl (by omega) hxl (rbegin_calls h hl a ha x ([kStp k] ++ z) (i - 1) (by rw [hL]; simp [ops]) (by omega))
  | .cat a c, ⟨ha, hc⟩, x, z, i, hL, hi => by
    obtain ⟨h1, h2⟩ := at_end hL hi
    have hp := ops_pos a
    have hp2 := ops_pos c
    have hlen : (ops (.cat a c)).length = (ops a).length + (ops c).length + 1 := by simp [ops]; omega
    rw [hlen] at hi
    have hxl : x.length + (ops a).length ≤ 1000 := by rw [hL] at hl; simp only [List.length_append] at hl; omega
    have H1 := rbegin_calls h hl c hc (x ++ ops a) ([kStp 3] ++ z) (i - 1) (by rw [hL]; simp [ops]) (by simp only [List.length_append]; omega)
    rw [List.length_append] at H1
    exact begin2 (j := i - 1) (j2 := x.length + (ops a).length - 1) h h1 h2 rfl hl (by omega) hxl (by omega) (by omega) H1 (rbegin_calls h hl a ha x (ops c ++ [kStp 3] ++ z) _ (by rw [hL]; simp [ops]) (by omega))
  | .alt a c, ⟨ha, hc⟩, x, z, i, hL, hi => by
    obtain ⟨h1, h2⟩ := at_end hL hi
    have hp := ops_pos a
    have hp2 := ops_pos c
    have hlen : (ops (.alt a c)).length = (ops a).length + (ops c).length + 1 := by simp [ops]; omega
    rw [hlen] at hi
    have hxl : x.length + (ops a).length ≤ 1000 := by rw [hL] at hl; simp only [List.length_append] at hl; omega
    have H1 := rbegin_calls h hl c hc (x ++ ops a) ([kStp 4] ++ z) (i - 1) (by rw [hL]; simp [ops]) (by simp only [List.length_append]; omega)
    rw [List.length_append] at H1
    exact begin2 (j := i - 1) (j2 := x.length + (ops a).length - 1) h h1 h2 rfl hl (by omega) hxl (by omega) (by omega) H1 (rbegin_calls h hl a ha x (ops c ++ [kStp 4] ++ z) _ (by rw [hL]; simp [ops]) (by omega))
end
end Go.Proofs.YthiiinbkkjacbaaDoor
