/- Slices of steps, and slices of such slices, as they come in; a set by value. -/
import Derived.Test.YtfjedkebckfpfaaRxJoin
import Derived.Test.YtfjedkebckfpfaaSetMath
import Derived.Laws.IdiomArrays
import Derived.Deep.Slices
namespace Go.Proofs.Ytfjedkebckfpfaa
open Go.ChangeShapes Go.WideShapes Go.ChangeAt Go.RowKit Go.Deep Go.Joins

/-- the numbers of a step fit their types -/
def Stp.fit (s : Stp) : Prop := (-9223372036854775808 ≤ s.k ∧ s.k ≤ 9223372036854775807) ∧ (0 ≤ s.a ∧ s.a ≤ 18446744073709551615) ∧ (0 ≤ s.b ∧ s.b ≤ 18446744073709551615) ∧ (0 ≤ s.c ∧ s.c ≤ 18446744073709551615) ∧ (0 ≤ s.d ∧ s.d ≤ 18446744073709551615)
theorem list5 {α : Type} (l : List α) (h : l.length = 5) : ∃ a b c d e, l = [a, b, c, d, e] := by
  match l, h with
  | [a, b, c, d, e], _ => exact ⟨a, b, c, d, e, rfl⟩
theorem list4 {α : Type} (l : List α) (h : l.length = 4) : ∃ a b c d, l = [a, b, c, d] := by
  match l, h with
  | [a, b, c, d], _ => exact ⟨a, b, c, d, rfl⟩
theorem wf_u64b {n : Int} (h : (Lit.int .u64 n).wf = true) : 0 ≤ n ∧ n ≤ 18446744073709551615 := by
  have := bounds_u64 h
  omega
theorem trod_four {H : Type} {enc : TypeId × Value → H} {w : World} {base : Nat} {sp : Nat → Bool} {hd : Bool} {fuel : Nat} {c0 c1 c2 c3 : Value} {x : DataW H × List MemPlace} (h : DataW.trod enc Try.prog w base sp hd fuel 25 [c0, c1, c2, c3] = some x) :
    ∃ a b c d : Int, c0 = .int .u64 a ∧ c1 = .int .u64 b ∧ c2 = .int .u64 c ∧ c3 = .int .u64 d ∧ (0 ≤ a ∧ a ≤ 18446744073709551615) ∧ (0 ≤ b ∧ b ≤ 18446744073709551615) ∧ (0 ≤ c ∧ c ≤ 18446744073709551615) ∧ (0 ≤ d ∧ d ≤ 18446744073709551615) := by
  obtain ⟨y0, y1, y2, y3, m, hx, h0, h1, h2, h3⟩ := trod_array4 Try.underlying25 (by kernel_rfl) h
  obtain ⟨x0, e0, rfl, w0⟩ := DataW.trod_int Try.underlying23 h0
  obtain ⟨x1, e1, rfl, w1⟩ := DataW.trod_int Try.underlying23 h1
  obtain ⟨x2, e2, rfl, w2⟩ := DataW.trod_int Try.underlying23 h2
  obtain ⟨x3, e3, rfl, w3⟩ := DataW.trod_int Try.underlying23 h3
  simp at e0 e1 e2 e3
  exact ⟨x0, x1, x2, x3, e0, e1, e2, e3, wf_u64b w0, wf_u64b w1, wf_u64b w2, wf_u64b w3⟩
theorem trod_stp {H : Type} {enc : TypeId × Value → H} {w : World} {base : Nat} {sp : Nat → Bool} {hd : Bool} {fuel : Nat} {cs : List Value} {x : DataW H × List MemPlace} (hl : cs.length = 5) (h : DataW.trod enc Try.prog w base sp hd fuel 44 cs = some x) :
    ∃ s : Stp, cs = s.cells ∧ s.fit := by
  obtain ⟨c0, c1, c2, c3, c4, rfl⟩ := list5 cs hl
  obtain ⟨y0, y1, n, _, _, h0, h1⟩ := trod_struct2 Try.underlying44 h
  have ck : Try.prog.cellsOf 34 = 1 := by kernel_rfl
  have cs : Try.prog.cellsOf 25 = 4 := by kernel_rfl
  simp [ck, cs] at h0 h1
  obtain ⟨k, e0, _, w0⟩ := DataW.trod_int Try.underlying34 h0
  simp at e0
  obtain ⟨a, b, c, d, rfl, rfl, rfl, rfl, f1, f2, f3, f4⟩ := trod_four h1
  exact ⟨⟨k, a, b, c, d⟩, by rw [e0]; rfl, wf_i64 w0, f1, f2, f3, f4⟩
theorem open_slX {H : Type} {enc : TypeId × Value → H} {W : World} {v : Value} {fuel : Nat} {x : DataW H × List MemPlace} (h : DataW.trod enc Try.prog W 0 (fun _ => true) true fuel 28 [v] = some x) :
    ∃ L, SlX (fun b => b < W.heap.size) W v L ∧ ∀ s ∈ L, s.fit := by
  have hc : Try.prog.cellsOf 44 = 5 := by kernel_rfl
  rcases open_slice Try.underlying28 h with ⟨hcs, _⟩ | ⟨ad, len, cap, m, n, D, Pl, hcs, _, hl, hm, hmm, _, hi⟩
  · simp at hcs
    subst hcs
    exact ⟨[], ⟨none, 0, rfl, Nat.le_refl _, by decide, fun _ => rfl, rfl, fun h => absurd h (by simp)⟩, fun s hs => by cases hs⟩
  · simp at hcs
    subst hcs
    have hm' : m = cap := by simpa using hmm
    subst hm'
    have each : ∀ i, i < len → ∃ s : Stp, (∀ j u, s.cells[j]? = some u → W.cell? (ad.add (i * 5 + j)) = some u) ∧ s.fit := fun i hi' => by
      obtain ⟨cs', hcs', ht⟩ := hi i (by omega)
      rw [hc] at hcs'
      obtain ⟨_, hlen, hcell⟩ := World.cells?_some hcs'
      obtain ⟨s, rfl, hf⟩ := trod_stp hlen ht
      refine ⟨s, fun j u hj => ?_, hf⟩
      have hj' : j < 5 := by
        have := (List.getElem?_eq_some_iff.1 hj).1
        simpa [Stp.cells] using this
      have := hcell j hj'
      rw [Go.Deep.add_add] at this
      rw [this]
      exact hj
    obtain ⟨q, hq⟩ := choose_lt each
    have hlen : ((List.range len).map q).length = len := by simp
    refine ⟨(List.range len).map q, ⟨some ad, m, by rw [hlen], by rw [hlen]; exact hl, hm, (fun e => by cases e), ?_⟩, fun s hs => ?_⟩
    · rw [hlen]
      refine ⟨hlen, fun hp => ?_⟩
      obtain ⟨b, off, spot⟩ := ad
      have h0 := (hq 0 hp).1 0 _ rfl
      have hspot : spot = none := by simpa [Addr.add] using World.cell?_spot h0
      subst hspot
      rw [Addr.add_lit] at h0
      refine ⟨b, off, rfl, cell_lt h0, fun i hi' => ?_⟩
      have hg : ((List.range len).map q).getD i default = q i := by simp [List.getD_eq_getElem?_getD, hi']
      rw [hg]
      have := fun j u hj => by
        have h2 := (hq i hi').1 j u hj
        rwa [Addr.add_lit] at h2
      exact ⟨this 0 _ rfl, this 1 _ rfl, this 2 _ rfl, this 3 _ rfl, this 4 _ rfl⟩
    · obtain ⟨i, hi', rfl⟩ := List.mem_map.1 hs
      exact (hq i (List.mem_range.1 hi')).2
theorem open_rx {H : Type} {enc : TypeId × Value → H} {W : World} {a : Option Addr} {len cap : Nat} {d : DataW H} {p : List MemPlace}
    (h : DataW.Trod enc Try.prog W 0 (fun _ => true) true 28 (.slice a len cap) d p) : ∃ L, SlX (fun b => b < W.heap.size) W (.slice a len cap) L ∧ ∀ s ∈ L, s.fit := by
  obtain ⟨fuel, hf⟩ := h
  exact open_slX (by simpa [Value.cells] using hf)
theorem open_rxs {H : Type} {enc : TypeId × Value → H} {W : World} {a : Option Addr} {len cap : Nat} {d : DataW H} {p : List MemPlace}
    (h : DataW.Trod enc Try.prog W 0 (fun _ => true) true 22 (.slice a len cap) d p) : ∃ LL, SlXs (fun b => b < W.heap.size) W (.slice a len cap) LL ∧ ∀ L ∈ LL, ∀ s ∈ L, s.fit := by
  obtain ⟨fuel, hf⟩ := h
  have hc : Try.prog.cellsOf 28 = 1 := by kernel_rfl
  rcases open_slice Try.underlying22 hf with ⟨hcs, _⟩ | ⟨ad, l, c, m, n, D, Pl, hcs, _, hl, hm, hmm, _, hi⟩
  · simp [Value.cells] at hcs
    obtain ⟨rfl, rfl, rfl⟩ := hcs
    exact ⟨[], ⟨none, 0, rfl, Nat.le_refl _, by decide, rfl, fun h => absurd h (by simp)⟩, fun L hL => by cases hL⟩
  · simp [Value.cells] at hcs
    obtain ⟨rfl, rfl, rfl⟩ := hcs
    have hm' : m = cap := by simpa using hmm
    subst hm'
    have each : ∀ i, i < len → ∃ L : List Stp, (∃ v, W.cell? (ad.add i) = some v ∧ SlX (fun b => b < W.heap.size) W v L) ∧ ∀ s ∈ L, s.fit := fun i hi' => by
      obtain ⟨cs', hcs', ht⟩ := hi i (by omega)
      rw [hc] at hcs'
      obtain ⟨_, hlen, hcell⟩ := World.cells?_some hcs'
      obtain ⟨v, rfl⟩ := List.length_eq_one_iff.1 hlen
      obtain ⟨L, h1, h2⟩ := open_slX ht
      have h0 := hcell 0 (by decide)
      rw [Go.Deep.add_add] at h0
      exact ⟨L, ⟨v, by simpa using h0, h1⟩, h2⟩
    obtain ⟨q, hq⟩ := choose_lt each
    have hlen : ((List.range len).map q).length = len := by simp
    refine ⟨(List.range len).map q, ⟨some ad, m, by rw [hlen], by rw [hlen]; exact hl, hm, ?_⟩, fun L hL => ?_⟩
    · rw [hlen]
      refine ⟨hlen, fun hp => ?_⟩
      obtain ⟨b, off, spot⟩ := ad
      obtain ⟨v0, h0, _⟩ := (hq 0 hp).1
      have hspot : spot = none := by simpa [Addr.add] using World.cell?_spot h0
      subst hspot
      rw [Addr.add_lit] at h0
      refine ⟨b, off, rfl, cell_lt h0, fun i hi' => ?_⟩
      have hg : ((List.range len).map q).getD i [] = q i := by simp [List.getD_eq_getElem?_getD, hi']
      rw [hg]
      obtain ⟨v, g1, g2⟩ := (hq i hi').1
      rw [Addr.add_lit] at g1
      exact ⟨v, g1, g2⟩
    · obtain ⟨i, hi', rfl⟩ := List.mem_map.1 hL
      exact (hq i (List.mem_range.1 hi')).2
theorem open_four {H : Type} {enc : TypeId × Value → H} {w : World} {b0 : Nat} {v : Value} {d : DataW H} {p : List MemPlace} {base : Nat} {sp : Nat → Bool} {hd : Bool}
    (hv : Value.okWide Try.prog w .any b0 25 v) (h : DataW.Trod enc Try.prog w base sp hd 25 v d p) : ∃ a b c e : Int, v = .agg #[.int .u64 a, .int .u64 b, .int .u64 c, .int .u64 e] ∧ (0 ≤ a ∧ a ≤ 18446744073709551615) ∧ (0 ≤ b ∧ b ≤ 18446744073709551615) ∧ (0 ≤ c ∧ c ≤ 18446744073709551615) ∧ (0 ≤ e ∧ e ≤ 18446744073709551615) := by
  obtain ⟨cs, rfl, hsz, _⟩ : ∃ cs, v = .agg cs ∧ cs.size = Try.prog.cellsOf 25 ∧ Row.okWide Try.prog w .any b0 25 cs := by
    simpa [Value.okWide, Try.underlying25] using hv
  have hc : Try.prog.cellsOf 25 = 4 := by kernel_rfl
  obtain ⟨fuel, hf⟩ := h
  obtain ⟨l⟩ := cs
  have hl : l.length = 4 := by simpa [hc] using hsz
  obtain ⟨c0, c1, c2, c3, rfl⟩ := list4 l hl
  obtain ⟨a, b, c, e, rfl, rfl, rfl, rfl, f⟩ := trod_four (by simpa [Value.cells] using hf)
  exact ⟨a, b, c, e, rfl, f⟩
end Go.Proofs.Ytfjedkebckfpfaa
