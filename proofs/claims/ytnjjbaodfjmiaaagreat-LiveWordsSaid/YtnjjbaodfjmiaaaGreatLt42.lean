/- SpOpen, FuOpenN, DfSmallM, DfOpen, put together. -/
import Derived.Test.YtnjjbaodfjmiaaaGreatLt19
import Derived.Laws.IdiomArrays
import Derived.Deep.Slices
import Derived.LaidMore
import Derived.Lay
import Derived.Lib.LaidTab
import Derived.SevenTiedAt
import Derived.Stop.Joined
import Derived.Test.YtnjjbaodfjmiaaaGreatLt13
import Derived.SizedLaws
import Derived.Test.YtnjjbaodfjmiaaaGreatLt26
/- What comes in (steps), the listed table as it is laid, the card out of the row. -/
namespace Go.Proofs.YtnjjbaodfjmiaaaGreat
open Go.ChangeShapes Go.WideShapes Go.ChangeAt Go.RowKit Go.Deep Go.Joins
set_option maxRecDepth 100000

theorem list4 {α : Type} (l : List α) (h : l.length = 4) : ∃ a b c d, l = [a, b, c, d] := by
  match l, h with
  | [a, b, c, d], _ => exact ⟨a, b, c, d, rfl⟩
theorem wf_u64b {n : Int} (h : (Lit.int .u64 n).wf = true) : 0 ≤ n ∧ n ≤ 18446744073709551615 := by
  have := bounds_u64 h
  omega
theorem trod_four {H : Type} {enc : TypeId × Value → H} {w : World} {base : Nat} {sp : Nat → Bool} {hd : Bool} {fuel : Nat} {c0 c1 c2 c3 : Value} {x : DataW H × List MemPlace} (h : DataW.trod enc Tryz.prog w base sp hd fuel 103 [c0, c1, c2, c3] = some x) :
    ∃ a b c d : Int, c0 = .int .u64 a ∧ c1 = .int .u64 b ∧ c2 = .int .u64 c ∧ c3 = .int .u64 d ∧ (0 ≤ a ∧ a ≤ 18446744073709551615) ∧ (0 ≤ b ∧ b ≤ 18446744073709551615) ∧ (0 ≤ c ∧ c ≤ 18446744073709551615) ∧ (0 ≤ d ∧ d ≤ 18446744073709551615) := by
  obtain ⟨y0, y1, y2, y3, m, hx, h0, h1, h2, h3⟩ := trod_array4 Tryz.underlying103 (by kernel_rfl) h
  obtain ⟨x0, e0, rfl, w0⟩ := DataW.trod_int Tryz.underlying101 h0
  obtain ⟨x1, e1, rfl, w1⟩ := DataW.trod_int Tryz.underlying101 h1
  obtain ⟨x2, e2, rfl, w2⟩ := DataW.trod_int Tryz.underlying101 h2
  obtain ⟨x3, e3, rfl, w3⟩ := DataW.trod_int Tryz.underlying101 h3
  simp at e0 e1 e2 e3
  exact ⟨x0, x1, x2, x3, e0, e1, e2, e3, wf_u64b w0, wf_u64b w1, wf_u64b w2, wf_u64b w3⟩
theorem SlX.later {w W : World} {v : Value} {L : List Stp} (h : SlX (fun b => b < w.heap.size) w v L) (hb : Below w.heap.size w W) : SlX (fun b => b < W.heap.size) W v L := h.below fun b hlt => ⟨Nat.lt_of_lt_of_le hlt hb.size, hb.block b hlt⟩
theorem SlX.len {C : Nat → Prop} {w : World} {a : Option Addr} {l c : Nat} {L : List Stp} (h : SlX C w (.slice a l c) L) : l = L.length := by
  obtain ⟨_, _, e, _⟩ := h
  simp only [Value.slice.injEq] at e
  exact e.2.1
end Go.Proofs.YtnjjbaodfjmiaaaGreat

/- A net that came in, by value. -/
namespace Go.Proofs.YtnjjbaodfjmiaaaGreat
open Go.ChangeShapes Go.WideShapes Go.ChangeAt Go.RowKit Go.Deep Go.Joins
set_option maxRecDepth 100000
/-- a slice, each of whose elements is of a kind -/
theorem open_kind {H : Type} {enc : TypeId × Value → H} {W : World} {t e : TypeId} {k fuel : Nat} {v : Value} {x : DataW H × List MemPlace} (El : List Value → Prop) (ht : Tryz.prog.underlying t = some (.slice e)) (hc : Tryz.prog.cellsOf e = k) (hk : 0 < k)
    (hel : ∀ n cs y, cs.length = k → DataW.trod enc Tryz.prog W 0 (fun _ => true) true n e cs = some y → El cs) (h : DataW.trod enc Tryz.prog W 0 (fun _ => true) true fuel t [v] = some x) :
    ∃ a len cap, v = .slice a len cap ∧ len ≤ cap ∧ cap ≤ maxLen ∧ (a = none → cap = 0) ∧ (len = 0 ∨ ∃ es sp, x.1 = .slice es sp ∧ es.length = len) ∧ (0 < len → ∃ b off, a = some ⟨b, off, none⟩ ∧ b < W.heap.size ∧ ∀ i, i < len → ∃ cs, cs.length = k ∧ El cs ∧ ∀ j u, cs[j]? = some u → W.cell? ⟨b, off + i * k + j, none⟩ = some u) := by
  rcases open_slice ht h with ⟨hcs, _⟩ | ⟨ad, len, cap, m, n, D, Pl, hcs, _, hl, hm, hmm, hx, hi⟩
  · simp at hcs
    exact ⟨none, 0, 0, hcs, Nat.le_refl _, by decide, fun _ => rfl, .inl rfl, fun h => absurd h (by decide)⟩
  · simp at hcs
    have hm' : m = cap := by simpa using hmm
    subst hm'
    refine ⟨some ad, len, m, hcs, hl, hm, (fun e => by cases e), .inr ⟨_, _, by rw [hx], by simp⟩, fun hp => ?_⟩
    have each : ∀ i, i < len → ∃ cs : List Value, cs.length = k ∧ El cs ∧ ∀ j u, cs[j]? = some u → W.cell? (ad.add (i * k + j)) = some u := fun i hi' => by
      obtain ⟨cs', hcs', htr⟩ := hi i (by omega)
      rw [hc] at hcs'
      obtain ⟨_, hlen, hcell⟩ := World.cells?_some hcs'
      refine ⟨cs', hlen, hel _ _ _ hlen htr, fun j u hj => ?_⟩
      have hj' : j < k := by have := (List.getElem?_eq_some_iff.1 hj).1; omega
      have := hcell j hj'
      rw [Go.Deep.add_add] at this
      rw [this]
      exact hj
    obtain ⟨b, off, spot⟩ := ad
    have hspot : spot = none := by
      obtain ⟨cs, h1, _, h3⟩ := each 0 hp
      have h0 := h3 0 cs[0] (List.getElem?_eq_getElem (by omega))
      simpa [Addr.add] using World.cell?_spot h0
    subst hspot
    refine ⟨b, off, rfl, ?_, fun i hi' => ?_⟩
    · obtain ⟨cs, h1, _, h3⟩ := each 0 hp
      have h0 := h3 0 cs[0] (List.getElem?_eq_getElem (by omega))
      rw [Addr.add_lit] at h0
      exact cell_lt h0
    · obtain ⟨cs, h1, h2, h3⟩ := each i hi'
      refine ⟨cs, h1, h2, fun j u hj => ?_⟩
      have := h3 j u hj
      rwa [Addr.add_lit, ← Nat.add_assoc] at this
theorem sized_len {H : Type} {t e : TypeId} {d : DataW H} {len : Nat} (ht : Tryz.prog.underlying t = some (.slice e)) (hb : 0 < Tryz.prog.bytesOf e) (h : len = 0 ∨ ∃ es sp, d = .slice es sp ∧ es.length = len) (hw : ∀ n ∈ d.weights Tryz.prog t, n ≤ reachBytes) : len ≤ 140737488351232 := by
  rcases h with rfl | ⟨es, sp, rfl, rfl⟩
  · omega
  · have := hw ((es.length + sp.length) * Tryz.prog.bytesOf e) (by simp [DataW.weights, ht])
    have h2 : es.length * 1 ≤ (es.length + sp.length) * Tryz.prog.bytesOf e := Nat.mul_le_mul (by omega) hb
    unfold reachBytes at this
    omega
section
variable {H : Type} {enc : TypeId × Value → H} {W : World} {fuel : Nat} {v : Value} {x : DataW H × List MemPlace}
theorem open_rdZ {t : TypeId} (ht : Tryz.prog.underlying t = some (.slice 3)) (h : DataW.trod enc Tryz.prog W 0 (fun _ => true) true fuel t [v] = some x) : ∃ l, RdZ W.heap.size W v l ∧ (l.length = 0 ∨ ∃ es sp, x.1 = .slice es sp ∧ es.length = l.length) := by
  obtain ⟨a, len, cap, rfl, h1, h2, h3, h4, h5⟩ := open_kind (k := 1) (fun cs => ∃ z, cs = [.int .i64 z]) ht (by kernel_rfl) (by decide) (fun n cs y _ hy => by
    obtain ⟨z, e, _⟩ := DataW.trod_int Tryz.underlying3 hy
    exact ⟨z, e⟩) h
  by_cases hp : 0 < len
  · obtain ⟨b, off, rfl, hb, hc⟩ := h5 hp
    obtain ⟨q, hq⟩ := choose_lt (p := fun i z => W.cell? ⟨b, off + i, none⟩ = some (.int .i64 z)) fun i hi => by
      obtain ⟨cs, _, ⟨z, rfl⟩, hcell⟩ := hc i hi
      exact ⟨z, by simpa using hcell 0 _ rfl⟩
    refine ⟨(List.range len).map q, ⟨_, cap, by rw [List.length_map, List.length_range], by simpa using h1, h2, (fun e => by cases e), fun _ => ⟨b, off, rfl, hb, fun i hi => ?_⟩⟩, by simpa using h4⟩
    have hi' : i < len := by simpa using hi
    rw [hq i hi']
    simp [List.getD_eq_getElem?_getD, hi']
  · obtain rfl : len = 0 := by omega
    exact ⟨[], ⟨a, cap, rfl, h1, h2, h3, fun h => absurd h (by simp)⟩, .inl rfl⟩
theorem open_rdB {t : TypeId} (ht : Tryz.prog.underlying t = some (.slice 4)) (h : DataW.trod enc Tryz.prog W 0 (fun _ => true) true fuel t [v] = some x) : ∃ l, RdB W.heap.size W v l ∧ (l.length = 0 ∨ ∃ es sp, x.1 = .slice es sp ∧ es.length = l.length) := by
  obtain ⟨a, len, cap, rfl, h1, h2, h3, h4, h5⟩ := open_kind (k := 1) (fun cs => ∃ z, cs = [.bool z]) ht (by kernel_rfl) (by decide) (fun n cs y _ hy => by
    obtain ⟨z, e, _⟩ := DataW.trod_bool Tryz.underlying4 hy
    exact ⟨z, e⟩) h
  by_cases hp : 0 < len
  · obtain ⟨b, off, rfl, hb, hc⟩ := h5 hp
    obtain ⟨q, hq⟩ := choose_lt (p := fun i z => W.cell? ⟨b, off + i, none⟩ = some (.bool z)) fun i hi => by
      obtain ⟨cs, _, ⟨z, rfl⟩, hcell⟩ := hc i hi
      exact ⟨z, by simpa using hcell 0 _ rfl⟩
    refine ⟨(List.range len).map q, ⟨_, cap, by rw [List.length_map, List.length_range], by simpa using h1, h2, (fun e => by cases e), fun _ => ⟨b, off, rfl, hb, fun i hi => ?_⟩⟩, by simpa using h4⟩
    have hi' : i < len := by simpa using hi
    rw [hq i hi']
    simp [List.getD_eq_getElem?_getD, hi']
  · obtain rfl : len = 0 := by omega
    exact ⟨[], ⟨a, cap, rfl, h1, h2, h3, fun h => absurd h (by simp)⟩, .inl rfl⟩
theorem open_rdS {t : TypeId} (ht : Tryz.prog.underlying t = some (.slice 103)) (h : DataW.trod enc Tryz.prog W 0 (fun _ => true) true fuel t [v] = some x) : ∃ S, RdS W.heap.size W v S ∧ (∀ s ∈ S, s.wide) ∧ (S.length = 0 ∨ ∃ es sp, x.1 = .slice es sp ∧ es.length = S.length) := by
  obtain ⟨a, len, cap, rfl, h1, h2, h3, h4, h5⟩ := open_kind (k := 4) (fun cs => ∃ s : Stp, cs = [.int .u64 s.a, .int .u64 s.b, .int .u64 s.c, .int .u64 s.d] ∧ s.wide) ht (by kernel_rfl) (by decide) (fun n cs y hl hy => by
    obtain ⟨c0, c1, c2, c3, rfl⟩ := list4 cs hl
    obtain ⟨a, b, c, d, rfl, rfl, rfl, rfl, f1, f2, f3, f4⟩ := trod_four hy
    exact ⟨⟨1, a, b, c, d⟩, rfl, f1, f2, f3, f4⟩) h
  by_cases hp : 0 < len
  · obtain ⟨b, off, rfl, hb, hc⟩ := h5 hp
    obtain ⟨q, hq⟩ := choose_lt (p := fun i (s : Stp) => s.wide ∧ W.cell? ⟨b, off + i * 4, none⟩ = some (.int .u64 s.a) ∧ W.cell? ⟨b, off + i * 4 + 1, none⟩ = some (.int .u64 s.b) ∧ W.cell? ⟨b, off + i * 4 + 2, none⟩ = some (.int .u64 s.c) ∧ W.cell? ⟨b, off + i * 4 + 3, none⟩ = some (.int .u64 s.d)) fun i hi => by
      obtain ⟨cs, _, ⟨s, rfl, hw⟩, hcell⟩ := hc i hi
      exact ⟨s, hw, by simpa using hcell 0 _ rfl, hcell 1 _ rfl, hcell 2 _ rfl, hcell 3 _ rfl⟩
    refine ⟨(List.range len).map q, ⟨_, cap, by rw [List.length_map, List.length_range], by simpa using h1, h2, (fun e => by cases e), fun _ => ⟨b, off, rfl, hb, fun i hi => ?_⟩⟩, fun s hs => ?_, by simpa using h4⟩
    · have hi' : i < len := by simpa using hi
      have hg : ((List.range len).map q).getD i default = q i := by simp [List.getD_eq_getElem?_getD, hi']
      rw [hg]
      exact (hq i hi').2
    · obtain ⟨i, hi, rfl⟩ := List.mem_map.1 hs
      exact (hq i (List.mem_range.1 hi)).1
  · obtain rfl : len = 0 := by omega
    exact ⟨[], ⟨a, cap, rfl, h1, h2, h3, fun h => absurd h (by simp)⟩, (fun s hs => by cases hs), .inl rfl⟩
theorem open_rdZZ {t : TypeId} (ht : Tryz.prog.underlying t = some (.slice 24)) (h : DataW.trod enc Tryz.prog W 0 (fun _ => true) true fuel t [v] = some x) : ∃ l, RdZZ W.heap.size W v l := by
  obtain ⟨a, len, cap, rfl, h1, h2, h3, h4, h5⟩ := open_kind (k := 1) (fun cs => ∃ u l, cs = [u] ∧ RdZ W.heap.size W u l) ht (by kernel_rfl) (by decide) (fun n cs y hl hy => by
    match cs, hl with
    | [u], _ =>
      obtain ⟨l, hl, _⟩ := open_rdZ Tryz.underlying24 hy
      exact ⟨u, l, rfl, hl⟩) h
  by_cases hp : 0 < len
  · obtain ⟨b, off, rfl, hb, hc⟩ := h5 hp
    obtain ⟨q, hq⟩ := choose_lt (p := fun i (l : List Int) => ∃ u, W.cell? ⟨b, off + i, none⟩ = some u ∧ RdZ W.heap.size W u l) fun i hi => by
      obtain ⟨cs, _, ⟨u, l, rfl, hr⟩, hcell⟩ := hc i hi
      exact ⟨l, u, by simpa using hcell 0 _ rfl, hr⟩
    refine ⟨(List.range len).map q, ⟨_, cap, by rw [List.length_map, List.length_range], by simpa using h1, h2, (fun e => by cases e), fun _ => ⟨b, off, rfl, hb, fun i hi => ?_⟩⟩⟩
    have hi' : i < len := by simpa using hi
    have hg : ((List.range len).map q).getD i [] = q i := by simp [List.getD_eq_getElem?_getD, hi']
    rw [hg]
    exact hq i hi'
  · obtain rfl : len = 0 := by omega
    exact ⟨[], ⟨a, cap, rfl, h1, h2, h3, fun h => absurd h (by simp)⟩⟩
end
theorem list5n {α : Type} (l : List α) (h : l.length = 5) : ∃ a b c d e, l = [a, b, c, d, e] := by
  match l, h with
  | [a, b, c, d, e], _ => exact ⟨a, b, c, d, e, rfl⟩
/-- the four lists that are summed are no longer than memory -/
def NetSz (N : NetM) : Prop := N.sets.length ≤ 140737488351232 ∧ N.of.length ≤ 140737488351232 ∧ N.last.length ≤ 140737488351232 ∧ N.first.length ≤ 140737488351232
theorem open_net {H : Type} {enc : TypeId × Value → H} {W : World} {b0 : Nat} {v : Value} {d : DataW H} {p : List MemPlace} (hv : Value.okWide Tryz.prog W .any b0 72 v) (h : DataW.Trod enc Tryz.prog W 0 (fun _ => true) true 72 v d p)
    (hw : ∀ n ∈ d.weights Tryz.prog 72, n ≤ reachBytes) : ∃ vs vo vl vf v1 N, v = .agg #[vs, vo, vl, vf, v1] ∧ RdNet W.heap.size W vs vo vl vf v1 N ∧ (∀ s ∈ N.sets, s.wide) ∧ NetSz N := by
  obtain ⟨cs, rfl, hsz⟩ := okWide_struct Tryz.underlying72 hv
  obtain ⟨fuel, hf⟩ := h
  obtain ⟨l⟩ := cs
  have hC : Tryz.prog.cellsOf 72 = 5 := by kernel_rfl
  have hl : l.length = 5 := by simpa [hC] using hsz
  obtain ⟨c0, c1, c2, c3, c4, rfl⟩ := list5n l hl
  obtain ⟨xs, n, _, hx, _, hxl, hfs⟩ := DataW.trod_struct Tryz.underlying72 (by simpa [Value.cells] using hf)
  simp only [Prod.mk.injEq] at hx
  obtain ⟨rfl, _⟩ := hx
  obtain ⟨y0, y1, y2, y3, y4, rfl⟩ := list5n xs (by simpa using hxl)
  have k0 : Tryz.prog.cellsOf 70 = 1 := by kernel_rfl
  have k1 : Tryz.prog.cellsOf 24 = 1 := by kernel_rfl
  have k2 : Tryz.prog.cellsOf 30 = 1 := by kernel_rfl
  have k3 : Tryz.prog.cellsOf 23 = 1 := by kernel_rfl
  have h0 := hfs 0 _ rfl
  have h1 := hfs 1 _ rfl
  have h2 := hfs 2 _ rfl
  have h3 := hfs 3 _ rfl
  have h4 := hfs 4 _ rfl
  simp [k0] at h0
  simp [k1] at h1
  simp [k2] at h2
  simp [k3] at h3
  simp [k1] at h4
  obtain ⟨S, r0, w0, z0⟩ := open_rdS Tryz.underlying70 h0
  obtain ⟨O, r1, z1⟩ := open_rdZ Tryz.underlying24 h1
  obtain ⟨B, r2, z2⟩ := open_rdB Tryz.underlying30 h2
  obtain ⟨F, r3⟩ := open_rdZZ Tryz.underlying23 h3
  obtain ⟨L, r4, z4⟩ := open_rdZ Tryz.underlying24 h4
  have hwt : ∀ (i : Nat) (t : TypeId) (y : DataW H × List MemPlace), [70, 24, 30, 23, 24][i]? = some t → [y0, y1, y2, y3, y4][i]? = some y → ∀ n ∈ y.1.weights Tryz.prog t, n ≤ reachBytes := fun i t y ht hy n hn => by
    refine hw n ?_
    simp only [DataW.weights, Tryz.underlying72]
    refine DataW.weights_mem_each (j := i) (t := t) (d := y.1) (by simpa using ht) ?_ n hn
    rw [List.getElem?_map, hy]
    rfl
  refine ⟨c0, c1, c2, c3, c4, ⟨S, O, B, F, L⟩, rfl, ⟨r0, r1, r2, r3, r4⟩, w0, ?_⟩
  exact ⟨sized_len Tryz.underlying70 (by decide +kernel) z0 (hwt 0 _ _ rfl rfl), sized_len Tryz.underlying24 (by decide +kernel) z1 (hwt 1 _ _ rfl rfl), sized_len Tryz.underlying30 (by decide +kernel) z2 (hwt 2 _ _ rfl rfl), sized_len Tryz.underlying24 (by decide +kernel) z4 (hwt 4 _ _ rfl rfl)⟩
end Go.Proofs.YtnjjbaodfjmiaaaGreat

/- Small: what is known of a machine that is. -/
namespace Go.Proofs.YtnjjbaodfjmiaaaGreat
open Go.RowKit Go.Lib Go.Joins
def totM (F : List (List Int)) : Nat := (F.map fun l => min l.length 10000).sum
theorem totM_more (F : List (List Int)) (k : Nat) (hk : k < F.length) : totM (F.take (k + 1)) = totM (F.take k) + min (F.getD k []).length 10000 := by
  unfold totM
  rw [List.take_succ_eq_append_getElem hk, List.map_append, List.sum_append, List.getD_eq_getElem?_getD, List.getElem?_eq_getElem hk]
  simp
theorem totM_le (F : List (List Int)) : totM F ≤ F.length * 10000 := by
  unfold totM
  induction F with
  | nil => simp
  | cons L r ih => simp only [List.map_cons, List.sum_cons, List.length_cons]; omega
def smallM (D : DfaM) : Bool := decide (D.next.length ≤ 300) && (decide (D.label.length ≤ 300) && decide (totM D.next ≤ 10000))
set_option maxHeartbeats 4000000 in
set_option maxRecDepth 100000 in
theorem smallM_calls {w : World} {vn vl : Value} {D : DfaM} (h : RdDfa w.heap.size w vn vl D) : Calls Tryz.prog 7 #[dfaA D.cls D.width vn vl] w fun e w' => e = .returned (.bool (smallM D)) ∧ Below w.heap.size w w' := by
  obtain ⟨an, cn, rfl⟩ := h.next.form
  obtain ⟨al, cl, rfl⟩ := h.label.form
  have HFB := hidden (show D.next.length ≤ 9223372036854775807 from by obtain ⟨_, _, e, h1, h2, _⟩ := h.next; simp only [Value.slice.injEq] at e; unfold maxLen at h2; omega)
  have hlb : D.label.length ≤ 9223372036854775807 := by obtain ⟨_, _, e, h1, h2, _⟩ := h.label; simp only [Value.slice.injEq] at e; unfold maxLen at h2; omega
  have HFO := hidden (fun W (hb : Below w.heap.size w W) i (hi : i < D.next.length) => h.next.at hb i hi)
  have HF := hidden (show smallM D = (decide (D.next.length ≤ 300) && (decide (D.label.length ≤ 300) && decide (totM D.next ≤ 10000))) from rfl)
  have HMO := hidden (fun k (hk : k < D.next.length) => totM_more D.next k hk)
  have HLE := hidden (fun k => (show totM (D.next.take k) ≤ k * 10000 from Nat.le_trans (totM_le _) (Nat.mul_le_mul_right _ (by rw [List.length_take]; omega))))
  have HALL := hidden (show totM (D.next.take D.next.length) = totM D.next by rw [List.take_length])
  have H0 := hidden (show totM (D.next.take 0) = 0 by simp [totM])
  obtain ⟨nf, hnf⟩ : ∃ k, k = D.next.length := ⟨_, rfl⟩
  obtain ⟨nl, hnl⟩ : ∃ k, k = D.label.length := ⟨_, rfl⟩
  rw [← hnf] at HFO HF HMO HALL HFB ⊢
  rw [← hnl] at HF hlb ⊢
  have HX := hidden (DfaAt.new w D.cls D.width (.slice an nf cn) (.slice al nl cl))
  have HB0 := hidden ((Below.refl w.heap.size w).alloc (Nat.le_refl _) (.cells (dfaC D.cls D.width (.slice an nf cn) (.slice al nl cl)) 26))
  have hbx := run_box_dfa D.cls D.width (.slice an nf cn) (.slice al nl cl)
  have hnfb := HFB.out
  clear h hnf hnl
  go_enter Tryz.func7, Tryz.ntmps7
  go_wp2
  obtain ⟨w0, hw0⟩ : ∃ w0, w0 = w.alloc (.cells (dfaC D.cls D.width (.slice an nf cn) (.slice al nl cl)) 26) := ⟨_, rfl⟩
  rw [← hw0] at HX HB0 ⊢
  clear hw0
  have e2 := HX.out.next
  have e3 := HX.out.label
  go_loopw [3, 4] (fun av i wr => ∃ (k : Nat) (x : Int), k ≤ nf ∧ av = .int .i64 x ∧ i = .int .i64 k ∧ Hid (nf ≤ 300 → x = (totM (D.next.take k) : Nat)) ∧ wr = w0) (fun _ i _ => nf - (Go.RowKit.intOf i).toNat)
  case atStart => exact ⟨0, 0, by omega, rfl, rfl, hidden (fun _ => by rw [H0.out]; rfl), rfl⟩
  case round =>
    obtain ⟨k, x, hk, rfl, rfl, HXX, rfl⟩ := hrel
    by_cases hlt : k < nf
    · obtain ⟨b, off, a', c', rfl, hb, hc, _⟩ := HFO.out wr HB0.out k hlt
      obtain ⟨l, hl⟩ : ∃ l, l = (D.next.getD k []).length := ⟨_, rfl⟩
      have HK := hidden (HMO.out k hlt)
      rw [← hl] at hc HK
      have HLK := hidden (HLE.out k)
      clear hl
      go_wp2
      go_roundw
      case rel =>
        refine ⟨k + 1, _, by omega, rfl, rfl, hidden (fun h => ?_), trivial⟩
        have h1 := HXX.out h
        have h2 := HLK.out
        rw [HK.out, h1]
        unfold wrap64
        omega
      case measure => simp [Go.RowKit.intOf]; omega
    · have e : k = nf := by omega
      subst e
      have HB := hidden HB0.out
      by_cases h60 : k ≤ 300
      · have hx := HXX.out h60
        rw [HALL.out] at hx
        have q0 : decide (k ≤ 300) = true := decide_eq_true h60
        have q1 : decide ((k : Int) ≤ 300) = true := decide_eq_true (by omega)
        by_cases hl3 : nl ≤ 300
        · have q2 : decide (nl ≤ 300) = true := decide_eq_true hl3
          have q3 : decide ((nl : Int) ≤ 300) = true := decide_eq_true (by omega)
          obtain ⟨tt, htt⟩ : ∃ t, t = totM D.next := ⟨_, rfl⟩
          rw [← htt] at hx
          have HTT := hidden htt
          subst hx
          by_cases h4 : tt ≤ 10000
          · have q4 : decide ((tt : Int) ≤ 10000) = true := decide_eq_true (by omega)
            have HE := hidden (show smallM D = true by rw [HF.out, q0, q2, ← HTT.out, decide_eq_true h4]; rfl)
            clear h60 h4 htt hl3
            go_wp2
            go_ret
            exact ⟨ret_b HE.out.symm, HB.out⟩
          · have q4 : decide ((tt : Int) ≤ 10000) = false := decide_eq_false (by omega)
            have HE := hidden (show smallM D = false by rw [HF.out, q0, q2, ← HTT.out, decide_eq_false h4]; rfl)
            clear h60 h4 htt hl3
            go_wp2
            go_ret
            exact ⟨ret_b HE.out.symm, HB.out⟩
        · have q3 : decide ((nl : Int) ≤ 300) = false := decide_eq_false (by omega)
          have HE := hidden (show smallM D = false by rw [HF.out, decide_eq_false hl3, Bool.false_and, Bool.and_false])
          clear h60 hl3 hx
          go_wp2
          go_ret
          exact ⟨ret_b HE.out.symm, HB.out⟩
      · have q1 : decide ((k : Int) ≤ 300) = false := decide_eq_false (by omega)
        have HE := hidden (show smallM D = false by rw [HF.out, decide_eq_false h60, Bool.false_and])
        clear h60
        go_wp2
        go_ret
        exact ⟨ret_b HE.out.symm, HB.out⟩
end Go.Proofs.YtnjjbaodfjmiaaaGreat

/- Machines as they come in, by value; what the three listed tables lay. -/
namespace Go.Proofs.YtnjjbaodfjmiaaaGreat
open Go.ChangeShapes Go.WideShapes Go.ChangeAt Go.RowKit Go.Deep Go.Joins
set_option maxRecDepth 100000
/-- 256 cells that read as an array of bytes -/
theorem trod_arr14 {H : Type} {enc : TypeId × Value → H} {w : World} {base : Nat} {sp : Nat → Bool} {hd : Bool} {fuel : Nat} {cs : List Value} {x : DataW H × List MemPlace} (h : DataW.trod enc Tryz.prog w base sp hd fuel 22 cs = some x) :
    ∃ g : Nat → Nat, (∀ j, j < 256 → g j < 256) ∧ ∀ j, j < 256 → cs[j]? = some (.int .u8 (g j : Int)) := by
  obtain ⟨xs, m, rfl, hx, hlc, hxl, hi⟩ := DataW.trod_array Tryz.underlying22 h
  have hc : Tryz.prog.cellsOf 5 = 1 := by kernel_rfl
  have hone : ∀ j, j < 256 → ∃ n : Nat, n < 256 ∧ cs[j]? = some (.int .u8 (n : Int)) := fun j hj => by
    have h1 := hi j hj
    rw [hc, Nat.mul_one, List.getElem?_eq_getElem (by omega)] at h1
    obtain ⟨n, e, _, wn⟩ := DataW.trod_int Tryz.underlying5 h1
    have hb := wf_u8 wn
    refine ⟨n.toNat, by omega, ?_⟩
    have h2 : (cs.drop j).take 1 = [Value.int .u8 n] := e
    have h3 := congrArg (fun l => l[0]?) h2
    simp at h3
    rw [h3]
    congr 2
    omega
  exact ⟨fun j => if h : j < 256 then (hone j h).choose else 0, fun j hj => by simp only [hj, dif_pos]; exact (hone j hj).choose_spec.1, fun j hj => by simp only [hj, dif_pos]; exact (hone j hj).choose_spec.2⟩

theorem open_dfa {H : Type} {enc : TypeId × Value → H} {W : World} {b0 : Nat} {v : Value} {d : DataW H} {p : List MemPlace} (hv : Value.okWide Tryz.prog W .any b0 26 v) (h : DataW.Trod enc Tryz.prog W 0 (fun _ => true) true 26 v d p) :
    ∃ vn vl D, v = dfaA D.cls D.width vn vl ∧ RdDfa W.heap.size W vn vl D := by
  obtain ⟨cs, rfl, hsz⟩ := okWide_struct Tryz.underlying26 hv
  obtain ⟨fuel, hf⟩ := h
  obtain ⟨l⟩ := cs
  have hC : Tryz.prog.cellsOf 26 = 259 := by kernel_rfl
  have hl : l.length = 259 := by simpa [hC] using hsz
  obtain ⟨xs, n, _, hx, _, hxl, hfs⟩ := DataW.trod_struct Tryz.underlying26 (by simpa [Value.cells] using hf)
  have k0 : Tryz.prog.cellsOf 22 = 256 := by kernel_rfl
  have k1 : Tryz.prog.cellsOf 3 = 1 := by kernel_rfl
  have k2 : Tryz.prog.cellsOf 23 = 1 := by kernel_rfl
  have k3 : Tryz.prog.cellsOf 24 = 1 := by kernel_rfl
  have h0 := hfs 0 _ rfl
  have h1 := hfs 1 _ rfl
  have h2 := hfs 2 _ rfl
  have h3 := hfs 3 _ rfl
  have one : ∀ i (hi : i < 259), (l.drop i).take 1 = [l[i]] := fun i hi => by
    rw [List.drop_eq_getElem_cons (by omega)]
    rfl
  have hx4 : xs.length = 4 := hxl
  obtain ⟨y0, y1, y2, y3, rfl⟩ : ∃ a b c d, xs = [a, b, c, d] := by
    match xs, hx4 with
    | [a, b, c, d], _ => exact ⟨a, b, c, d, rfl⟩
  have h0 : DataW.trod enc Tryz.prog W 0 (fun _ => true) true n 22 ((l.drop 0).take (Tryz.prog.cellsOf 22)) = some y0 := h0
  have h1 : DataW.trod enc Tryz.prog W 0 (fun _ => true) true n 3 ((l.drop 256).take (Tryz.prog.cellsOf 3)) = some y1 := h1
  have h2 : DataW.trod enc Tryz.prog W 0 (fun _ => true) true n 23 ((l.drop 257).take (Tryz.prog.cellsOf 23)) = some y2 := h2
  have h3 : DataW.trod enc Tryz.prog W 0 (fun _ => true) true n 24 ((l.drop 258).take (Tryz.prog.cellsOf 24)) = some y3 := h3
  rw [k0, List.drop_zero] at h0
  rw [k1] at h1
  rw [k2] at h2
  rw [k3] at h3
  obtain ⟨g, g1, g2⟩ := trod_arr14 h0
  rw [one _ (by decide)] at h1 h2 h3
  obtain ⟨z, e1, _⟩ := DataW.trod_int Tryz.underlying3 h1
  obtain ⟨F, r2⟩ := open_rdZZ Tryz.underlying23 h2
  obtain ⟨L, r3, _⟩ := open_rdZ Tryz.underlying24 h3
  refine ⟨_, _, ⟨g, z, F, L⟩, ?_, ⟨r2, r3, g1⟩⟩
  show Value.agg ⟨l⟩ = .agg (dfaC g z _ _)
  congr 1
  apply Array.ext
  · rw [dfaC_size]; simpa using hl
  · intro j q1 q2
    have hj : j < 259 := by rw [dfaC_size] at q2; exact q2
    obtain ⟨d0, d1, d2⟩ := dfaC_rest g z (l[257]'(by omega)) (l[258]'(by omega))
    have q3 := Array.getElem?_eq_getElem q2
    by_cases c1 : j < 256
    · have e := g2 j c1
      have e2 := dfaC_cls g z (l[257]'(by omega)) (l[258]'(by omega)) c1
      rw [q3] at e2
      rw [List.getElem?_take, if_pos c1, List.getElem?_eq_getElem (by omega)] at e
      exact (Option.some.inj e).trans (Option.some.inj e2).symm
    · have hj3 : j = 256 ∨ j = 257 ∨ j = 258 := by omega
      rcases hj3 with rfl | rfl | rfl
      · rw [q3] at d0
        exact (List.head_eq_of_cons_eq e1).trans (Option.some.inj d0).symm
      · rw [q3] at d1
        exact (Option.some.inj d1).symm
      · rw [q3] at d2
        exact (Option.some.inj d2).symm
end Go.Proofs.YtnjjbaodfjmiaaaGreat
