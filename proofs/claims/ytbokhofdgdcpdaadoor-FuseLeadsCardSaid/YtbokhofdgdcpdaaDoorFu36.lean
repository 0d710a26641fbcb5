/- FuOpenN, FuSmall, put together. -/
import Derived.Test.YtbokhofdgdcpdaaDoorFu17
import Derived.Test.YtbokhofdgdcpdaaDoorFu34
import Derived.Deep.Slices
import Derived.SizedLaws
import Derived.Test.YtbokhofdgdcpdaaDoorFu33
/- A net that came in, by value. -/
namespace Go.Proofs.YtbokhofdgdcpdaaDoor
open Go.ChangeShapes Go.WideShapes Go.ChangeAt Go.RowKit Go.Deep Go.Joins
set_option maxRecDepth 100000
/-- a slice, each of whose elements is of a kind -/
theorem open_kind {H : Type} {enc : TypeId × Value → H} {W : World} {t e : TypeId} {k fuel : Nat} {v : Value} {x : DataW H × List MemPlace} (El : List Value → Prop) (ht : Tryd.prog.underlying t = some (.slice e)) (hc : Tryd.prog.cellsOf e = k) (hk : 0 < k)
    (hel : ∀ n cs y, cs.length = k → DataW.trod enc Tryd.prog W 0 (fun _ => true) true n e cs = some y → El cs) (h : DataW.trod enc Tryd.prog W 0 (fun _ => true) true fuel t [v] = some x) :
    ∃ a len cap, v = .slice a len cap ∧ len ≤ cap ∧ cap ≤ maxLen ∧ (a = none → cap = 0) ∧ (len = 0 ∨ ∃ es sp, x.1 = .slice es sp ∧ es.length = len) ∧ (0 < len → ∃ b off, a = some ⟨b, off, none⟩ ∧ b < W.heap.size ∧ ∀ i, i < len → ∃ cs, cs.length = k ∧ El cs ∧ ∀ j u, cs[j]? = some u → W.cell? ⟨b, off + i * k + j, none⟩ = some u) := by
  rcases open_slice ht h with ⟨hcs, _⟩ | ⟨ad, len, cap, m, n, D, Pl, hcs, _, hl, hm, hmm, hx, hi⟩
  · simp at hcs
    exact ⟨none, 0, 0, hcs, Nat.le_refl _, by decide, fun _ => rfl, .inl rfl, fun h => absurd h (by decide)⟩
  · simp at hcs
    have hm' : m = cap := by simpa using hmm
    subst hm'
    refine ⟨some ad, len, m, hcs, hl, hm, (fun e => by cases e), .inr ⟨_, _, by rw [hx], by simp⟩, fun hp => ?_⟩
    have each : ∀ i, i < len → ∃ cs : List Value, cs.length = k ∧ El cs ∧ ∀ j u, cs[j]? = some u → W.cell? (ad.add (i * k + j)) = some u := fun i hi' => by
      obtain ⟨cs', hcs', htr⟩ := hi i (by omega)
      rw [hc] at hcs'
      obtain ⟨_, hlen, hcell⟩ := World.cells?_some hcs'
      refine ⟨cs', hlen, hel _ _ _ hlen htr, fun j u hj => ?_⟩
      have hj' : j < k := by have := (List.getElem?_eq_some_iff.1 hj).1; omega
      have := hcell j hj'
      rw [Go.Deep.add_add] at this
      rw [this]
      exact hj
    obtain ⟨b, off, spot⟩ := ad
    have hspot : spot = none := by
      obtain ⟨cs, h1, _, h3⟩ := each 0 hp
      have h0 := h3 0 cs[0] (List.getElem?_eq_getElem (by omega))
      simpa [Addr.add] using World.cell?_spot h0
    subst hspot
    refine ⟨b, off, rfl, ?_, fun i hi' => ?_⟩
    · obtain ⟨cs, h1, _, h3⟩ := each 0 hp
      have h0 := h3 0 cs[0] (List.getElem?_eq_getElem (by omega))
      rw [Addr.add_lit] at h0
      exact cell_lt h0
    · obtain ⟨cs, h1, h2, h3⟩ := each i hi'
      refine ⟨cs, h1, h2, fun j u hj => ?_⟩
      have := h3 j u hj
      rwa [Addr.add_lit, ← Nat.add_assoc] at this
theorem sized_len {H : Type} {t e : TypeId} {d : DataW H} {len : Nat} (ht : Tryd.prog.underlying t = some (.slice e)) (hb : 0 < Tryd.prog.bytesOf e) (h : len = 0 ∨ ∃ es sp, d = .slice es sp ∧ es.length = len) (hw : ∀ n ∈ d.weights Tryd.prog t, n ≤ reachBytes) : len ≤ 140737488351232 := by
  rcases h with rfl | ⟨es, sp, rfl, rfl⟩
  · omega
  · have := hw ((es.length + sp.length) * Tryd.prog.bytesOf e) (by simp [DataW.weights, ht])
    have h2 : es.length * 1 ≤ (es.length + sp.length) * Tryd.prog.bytesOf e := Nat.mul_le_mul (by omega) hb
    unfold reachBytes at this
    omega
section
variable {H : Type} {enc : TypeId × Value → H} {W : World} {fuel : Nat} {v : Value} {x : DataW H × List MemPlace}
theorem open_rdZ {t : TypeId} (ht : Tryd.prog.underlying t = some (.slice 3)) (h : DataW.trod enc Tryd.prog W 0 (fun _ => true) true fuel t [v] = some x) : ∃ l, RdZ W.heap.size W v l ∧ (l.length = 0 ∨ ∃ es sp, x.1 = .slice es sp ∧ es.length = l.length) := by
  obtain ⟨a, len, cap, rfl, h1, h2, h3, h4, h5⟩ := open_kind (k := 1) (fun cs => ∃ z, cs = [.int .i64 z]) ht (by kernel_rfl) (by decide) (fun n cs y _ hy => by
    obtain ⟨z, e, _⟩ := DataW.trod_int Tryd.underlying3 hy
    exact ⟨z, e⟩) h
  by_cases hp : 0 < len
  · obtain ⟨b, off, rfl, hb, hc⟩ := h5 hp
    obtain ⟨q, hq⟩ := choose_lt (p := fun i z => W.cell? ⟨b, off + i, none⟩ = some (.int .i64 z)) fun i hi => by
      obtain ⟨cs, _, ⟨z, rfl⟩, hcell⟩ := hc i hi
      exact ⟨z, by simpa using hcell 0 _ rfl⟩
    refine ⟨(List.range len).map q, ⟨_, cap, by rw [List.length_map, List.length_range], by simpa using h1, h2, (fun e => by cases e), fun _ => ⟨b, off, rfl, hb, fun i hi => ?_⟩⟩, by simpa using h4⟩
    have hi' : i < len := by simpa using hi
    rw [hq i hi']
    simp [List.getD_eq_getElem?_getD, hi']
  · obtain rfl : len = 0 := by omega
    exact ⟨[], ⟨a, cap, rfl, h1, h2, h3, fun h => absurd h (by simp)⟩, .inl rfl⟩
theorem open_rdB {t : TypeId} (ht : Tryd.prog.underlying t = some (.slice 4)) (h : DataW.trod enc Tryd.prog W 0 (fun _ => true) true fuel t [v] = some x) : ∃ l, RdB W.heap.size W v l ∧ (l.length = 0 ∨ ∃ es sp, x.1 = .slice es sp ∧ es.length = l.length) := by
  obtain ⟨a, len, cap, rfl, h1, h2, h3, h4, h5⟩ := open_kind (k := 1) (fun cs => ∃ z, cs = [.bool z]) ht (by kernel_rfl) (by decide) (fun n cs y _ hy => by
    obtain ⟨z, e, _⟩ := DataW.trod_bool Tryd.underlying4 hy
    exact ⟨z, e⟩) h
  by_cases hp : 0 < len
  · obtain ⟨b, off, rfl, hb, hc⟩ := h5 hp
    obtain ⟨q, hq⟩ := choose_lt (p := fun i z => W.cell? ⟨b, off + i, none⟩ = some (.bool z)) fun i hi => by
      obtain ⟨cs, _, ⟨z, rfl⟩, hcell⟩ := hc i hi
      exact ⟨z, by simpa using hcell 0 _ rfl⟩
    refine ⟨(List.range len).map q, ⟨_, cap, by rw [List.length_map, List.length_range], by simpa using h1, h2, (fun e => by cases e), fun _ => ⟨b, off, rfl, hb, fun i hi => ?_⟩⟩, by simpa using h4⟩
    have hi' : i < len := by simpa using hi
    rw [hq i hi']
    simp [List.getD_eq_getElem?_getD, hi']
  · obtain rfl : len = 0 := by omega
    exact ⟨[], ⟨a, cap, rfl, h1, h2, h3, fun h => absurd h (by simp)⟩, .inl rfl⟩
theorem open_rdS {t : TypeId} (ht : Tryd.prog.underlying t = some (.slice 28)) (h : DataW.trod enc Tryd.prog W 0 (fun _ => true) true fuel t [v] = some x) : ∃ S, RdS W.heap.size W v S ∧ (∀ s ∈ S, s.wide) ∧ (S.length = 0 ∨ ∃ es sp, x.1 = .slice es sp ∧ es.length = S.length) := by
  obtain ⟨a, len, cap, rfl, h1, h2, h3, h4, h5⟩ := open_kind (k := 4) (fun cs => ∃ s : Stp, cs = [.int .u64 s.a, .int .u64 s.b, .int .u64 s.c, .int .u64 s.d] ∧ s.wide) ht (by kernel_rfl) (by decide) (fun n cs y hl hy => by
    obtain ⟨c0, c1, c2, c3, rfl⟩ := list4 cs hl
    obtain ⟨a, b, c, d, rfl, rfl, rfl, rfl, f1, f2, f3, f4⟩ := trod_four hy
    exact ⟨⟨1, a, b, c, d⟩, rfl, f1, f2, f3, f4⟩) h
  by_cases hp : 0 < len
  · obtain ⟨b, off, rfl, hb, hc⟩ := h5 hp
    obtain ⟨q, hq⟩ := choose_lt (p := fun i (s : Stp) => s.wide ∧ W.cell? ⟨b, off + i * 4, none⟩ = some (.int .u64 s.a) ∧ W.cell? ⟨b, off + i * 4 + 1, none⟩ = some (.int .u64 s.b) ∧ W.cell? ⟨b, off + i * 4 + 2, none⟩ = some (.int .u64 s.c) ∧ W.cell? ⟨b, off + i * 4 + 3, none⟩ = some (.int .u64 s.d)) fun i hi => by
      obtain ⟨cs, _, ⟨s, rfl, hw⟩, hcell⟩ := hc i hi
      exact ⟨s, hw, by simpa using hcell 0 _ rfl, hcell 1 _ rfl, hcell 2 _ rfl, hcell 3 _ rfl⟩
    refine ⟨(List.range len).map q, ⟨_, cap, by rw [List.length_map, List.length_range], by simpa using h1, h2, (fun e => by cases e), fun _ => ⟨b, off, rfl, hb, fun i hi => ?_⟩⟩, fun s hs => ?_, by simpa using h4⟩
    · have hi' : i < len := by simpa using hi
      have hg : ((List.range len).map q).getD i default = q i := by simp [List.getD_eq_getElem?_getD, hi']
      rw [hg]
      exact (hq i hi').2
    · obtain ⟨i, hi, rfl⟩ := List.mem_map.1 hs
      exact (hq i (List.mem_range.1 hi)).1
  · obtain rfl : len = 0 := by omega
    exact ⟨[], ⟨a, cap, rfl, h1, h2, h3, fun h => absurd h (by simp)⟩, (fun s hs => by cases hs), .inl rfl⟩
theorem open_rdZZ {t : TypeId} (ht : Tryd.prog.underlying t = some (.slice 30)) (h : DataW.trod enc Tryd.prog W 0 (fun _ => true) true fuel t [v] = some x) : ∃ l, RdZZ W.heap.size W v l := by
  obtain ⟨a, len, cap, rfl, h1, h2, h3, h4, h5⟩ := open_kind (k := 1) (fun cs => ∃ u l, cs = [u] ∧ RdZ W.heap.size W u l) ht (by kernel_rfl) (by decide) (fun n cs y hl hy => by
    match cs, hl with
    | [u], _ =>
      obtain ⟨l, hl, _⟩ := open_rdZ Tryd.underlying30 hy
      exact ⟨u, l, rfl, hl⟩) h
  by_cases hp : 0 < len
  · obtain ⟨b, off, rfl, hb, hc⟩ := h5 hp
    obtain ⟨q, hq⟩ := choose_lt (p := fun i (l : List Int) => ∃ u, W.cell? ⟨b, off + i, none⟩ = some u ∧ RdZ W.heap.size W u l) fun i hi => by
      obtain ⟨cs, _, ⟨u, l, rfl, hr⟩, hcell⟩ := hc i hi
      exact ⟨l, u, by simpa using hcell 0 _ rfl, hr⟩
    refine ⟨(List.range len).map q, ⟨_, cap, by rw [List.length_map, List.length_range], by simpa using h1, h2, (fun e => by cases e), fun _ => ⟨b, off, rfl, hb, fun i hi => ?_⟩⟩⟩
    have hi' : i < len := by simpa using hi
    have hg : ((List.range len).map q).getD i [] = q i := by simp [List.getD_eq_getElem?_getD, hi']
    rw [hg]
    exact hq i hi'
  · obtain rfl : len = 0 := by omega
    exact ⟨[], ⟨a, cap, rfl, h1, h2, h3, fun h => absurd h (by simp)⟩⟩
end
theorem list5n {α : Type} (l : List α) (h : l.length = 5) : ∃ a b c d e, l = [a, b, c, d, e] := by
  match l, h with
  | [a, b, c, d, e], _ => exact ⟨a, b, c, d, e, rfl⟩
/-- the four lists that are summed are no longer than memory -/
def NetSz (N : NetM) : Prop := N.sets.length ≤ 140737488351232 ∧ N.of.length ≤ 140737488351232 ∧ N.last.length ≤ 140737488351232 ∧ N.first.length ≤ 140737488351232
theorem open_net {H : Type} {enc : TypeId × Value → H} {W : World} {b0 : Nat} {v : Value} {d : DataW H} {p : List MemPlace} (hv : Value.okWide Tryd.prog W .any b0 48 v) (h : DataW.Trod enc Tryd.prog W 0 (fun _ => true) true 48 v d p)
    (hw : ∀ n ∈ d.weights Tryd.prog 48, n ≤ reachBytes) : ∃ vs vo vl vf v1 N, v = .agg #[vs, vo, vl, vf, v1] ∧ RdNet W.heap.size W vs vo vl vf v1 N ∧ (∀ s ∈ N.sets, s.wide) ∧ NetSz N := by
  obtain ⟨cs, rfl, hsz⟩ := okWide_struct Tryd.underlying48 hv
  obtain ⟨fuel, hf⟩ := h
  obtain ⟨l⟩ := cs
  have hC : Tryd.prog.cellsOf 48 = 5 := by kernel_rfl
  have hl : l.length = 5 := by simpa [hC] using hsz
  obtain ⟨c0, c1, c2, c3, c4, rfl⟩ := list5n l hl
  obtain ⟨xs, n, _, hx, _, hxl, hfs⟩ := DataW.trod_struct Tryd.underlying48 (by simpa [Value.cells] using hf)
  simp only [Prod.mk.injEq] at hx
  obtain ⟨rfl, _⟩ := hx
  obtain ⟨y0, y1, y2, y3, y4, rfl⟩ := list5n xs (by simpa using hxl)
  have k0 : Tryd.prog.cellsOf 24 = 1 := by kernel_rfl
  have k1 : Tryd.prog.cellsOf 30 = 1 := by kernel_rfl
  have k2 : Tryd.prog.cellsOf 45 = 1 := by kernel_rfl
  have k3 : Tryd.prog.cellsOf 46 = 1 := by kernel_rfl
  have h0 := hfs 0 _ rfl
  have h1 := hfs 1 _ rfl
  have h2 := hfs 2 _ rfl
  have h3 := hfs 3 _ rfl
  have h4 := hfs 4 _ rfl
  simp [k0] at h0
  simp [k1] at h1
  simp [k2] at h2
  simp [k3] at h3
  simp [k1] at h4
  obtain ⟨S, r0, w0, z0⟩ := open_rdS Tryd.underlying24 h0
  obtain ⟨O, r1, z1⟩ := open_rdZ Tryd.underlying30 h1
  obtain ⟨B, r2, z2⟩ := open_rdB Tryd.underlying45 h2
  obtain ⟨F, r3⟩ := open_rdZZ Tryd.underlying46 h3
  obtain ⟨L, r4, z4⟩ := open_rdZ Tryd.underlying30 h4
  have hwt : ∀ (i : Nat) (t : TypeId) (y : DataW H × List MemPlace), [24, 30, 45, 46, 30][i]? = some t → [y0, y1, y2, y3, y4][i]? = some y → ∀ n ∈ y.1.weights Tryd.prog t, n ≤ reachBytes := fun i t y ht hy n hn => by
    refine hw n ?_
    simp only [DataW.weights, Tryd.underlying48]
    refine DataW.weights_mem_each (j := i) (t := t) (d := y.1) (by simpa using ht) ?_ n hn
    rw [List.getElem?_map, hy]
    rfl
  refine ⟨c0, c1, c2, c3, c4, ⟨S, O, B, F, L⟩, rfl, ⟨r0, r1, r2, r3, r4⟩, w0, ?_⟩
  exact ⟨sized_len Tryd.underlying24 (by decide +kernel) z0 (hwt 0 _ _ rfl rfl), sized_len Tryd.underlying30 (by decide +kernel) z1 (hwt 1 _ _ rfl rfl), sized_len Tryd.underlying45 (by decide +kernel) z2 (hwt 2 _ _ rfl rfl), sized_len Tryd.underlying30 (by decide +kernel) z4 (hwt 4 _ _ rfl rfl)⟩
end Go.Proofs.YtbokhofdgdcpdaaDoor

/- small: what is known of a net that is. -/
namespace Go.Proofs.YtbokhofdgdcpdaaDoor
open Go.RowKit Go.Lib Go.Joins
def totF (F : List (List Int)) : Nat := (F.map fun l => min l.length 1000).sum
theorem totF_more (F : List (List Int)) (k : Nat) (hk : k < F.length) : totF (F.take (k + 1)) = totF (F.take k) + min (F.getD k []).length 1000 := by
  unfold totF
  rw [List.take_succ_eq_append_getElem hk, List.map_append, List.sum_append, List.getD_eq_getElem?_getD, List.getElem?_eq_getElem hk]
  simp
theorem totF_le (F : List (List Int)) : totF F ≤ F.length * 1000 := by
  unfold totF
  induction F with
  | nil => simp
  | cons L r ih => simp only [List.map_cons, List.sum_cons, List.length_cons]; omega
theorem totF_each : ∀ (F : List (List Int)) (i : Nat), min (F.getD i []).length 1000 ≤ totF F
  | [], i => by simp [totF]
  | L :: r, 0 => by simp [totF]
  | L :: r, i + 1 => by
    have := totF_each r i
    simp only [totF, List.map_cons, List.sum_cons, List.getD_cons_succ] at *
    omega
structure SmallN (N : NetM) : Prop where
  fol : N.fol.length ≤ 60
  sum : N.sets.length ≤ 400 ∧ N.of.length ≤ 400 ∧ N.last.length ≤ 400 ∧ N.first.length ≤ 400
  each : ∀ i, (N.fol.getD i []).length ≤ 400
def smallB (N : NetM) : Bool := decide (N.fol.length ≤ 60) && decide (N.first.length + N.of.length + N.last.length + N.sets.length + totF N.fol ≤ 400)
theorem small_yes {N : NetM} (h : smallB N = true) : SmallN N := by
  simp only [smallB, Bool.and_eq_true, decide_eq_true_eq] at h
  exact ⟨h.1, by omega, fun i => by have := totF_each N.fol i; omega⟩
set_option maxHeartbeats 4000000 in
set_option maxRecDepth 100000 in
theorem small_calls {w : World} {vs vo vl vf v1 : Value} {N : NetM} (h : RdNet w.heap.size w vs vo vl vf v1 N) (hz : NetSz N) : Calls Tryd.prog 34 #[.agg #[vs, vo, vl, vf, v1]] w fun e w' => e = .returned (.bool (smallB N)) ∧ Below w.heap.size w w' := by
  have hba := (Below.refl w.heap.size w).alloc (Nat.le_refl _) (.cells #[vs, vo, vl, vf, v1] 48)
  have hbx := net_box w vs vo vl vf v1 48
  obtain ⟨w0, hw0⟩ : ∃ w0, w0 = w.alloc (.cells #[vs, vo, vl, vf, v1] 48) := ⟨_, rfl⟩
  rw [← hw0] at hba hbx
  obtain ⟨sa, cs, rfl⟩ := h.sets.form
  obtain ⟨so, co, rfl⟩ := h.of.form
  obtain ⟨sl, cl, rfl⟩ := h.last.form
  obtain ⟨sf, cf, rfl⟩ := h.fol.form
  obtain ⟨s1, c1, rfl⟩ := h.first.form
  have HFB := hidden (show N.fol.length ≤ 9223372036854775807 from by obtain ⟨_, _, e, h1, h2, _⟩ := h.fol; simp only [Value.slice.injEq] at e; unfold maxLen at h2; omega)
  have HFO := hidden (fun W (hb : Below w.heap.size w W) i (hi : i < N.fol.length) => h.fol.at hb i hi)
  have HF := hidden (show smallB N = (decide (N.fol.length ≤ 60) && decide (N.first.length + N.of.length + N.last.length + N.sets.length + totF N.fol ≤ 400)) from rfl)
  have HMO := hidden (fun k (hk : k < N.fol.length) => totF_more N.fol k hk)
  have HLE := hidden (fun k => (show totF (N.fol.take k) ≤ k * 1000 from Nat.le_trans (totF_le _) (Nat.mul_le_mul_right _ (by rw [List.length_take]; omega))))
  have HALL := hidden (show totF (N.fol.take N.fol.length) = totF N.fol by rw [List.take_length])
  have H0 := hidden (show totF (N.fol.take 0) = 0 by simp [totF])
  obtain ⟨z1, z2, z3, z4⟩ := hz
  have HBA := hidden hba
  have HBX := hidden hbx
  have HW0 := hidden hw0
  obtain ⟨ns, hns⟩ : ∃ k, k = N.sets.length := ⟨_, rfl⟩
  obtain ⟨no, hno⟩ : ∃ k, k = N.of.length := ⟨_, rfl⟩
  obtain ⟨nl, hnl⟩ : ∃ k, k = N.last.length := ⟨_, rfl⟩
  obtain ⟨nf, hnf⟩ : ∃ k, k = N.fol.length := ⟨_, rfl⟩
  obtain ⟨n1, hn1⟩ : ∃ k, k = N.first.length := ⟨_, rfl⟩
  rw [← hns] at HF HBX HW0 z1 ⊢
  rw [← hno] at HF HBX HW0 z2 ⊢
  rw [← hnl] at HF HBX HW0 z3 ⊢
  rw [← hnf] at HFO HF HMO HALL HFB HBX HW0 ⊢
  rw [← hn1] at HF HBX HW0 z4 ⊢
  have hnfb := HFB.out
  clear h hba hbx hw0 hns hno hnl hnf hn1
  obtain ⟨b0, b1, b2, b3, b4⟩ := HBX.out w0 (by have := HBA.out.size; exact (by rw [HW0.out]; exact Below.refl _ _))
  have s1' : IntKind.i64.wrap ((n1 : Int) + no) = ((n1 + no : Nat) : Int) := by rw [IntKind.wrap_i64]; omega
  have s2' : IntKind.i64.wrap (((n1 + no : Nat) : Int) + nl) = ((n1 + no + nl : Nat) : Int) := by rw [IntKind.wrap_i64]; omega
  have s3' : IntKind.i64.wrap (((n1 + no + nl : Nat) : Int) + ns) = ((n1 + no + nl + ns : Nat) : Int) := by rw [IntKind.wrap_i64]; omega
  rw [HW0.out] at b0 b1 b2 b3 b4
  go_enter Tryd.func34, Tryd.ntmps34
  have HB0 := hidden (show Below (w.heap.size + 1) w0 w0 from Below.refl _ _)
  have HS0 := hidden (show w0.heap.size = w.heap.size + 1 by rw [HW0.out]; simp)
  go_wp2
  rw [← HW0.out]
  clear b0 b1 b2 b3 b4
  obtain ⟨sm, hsm⟩ : ∃ s : Nat, s = n1 + no + nl + ns := ⟨_, rfl⟩
  rw [← hsm] at HF
  have HSM := hidden hsm
  rw [show ((n1 : Int) + no + nl + ns) = (sm : Int) by rw [hsm]; omega]
  have hsmb : sm ≤ 562949953421312 := by omega
  clear hsm s1' s2' s3'
  go_loopw [3, 4] (fun av i wr => ∃ (k : Nat) (x : Int), k ≤ nf ∧ av = .int .i64 x ∧ i = .int .i64 k ∧ Hid (nf ≤ 60 → x = ((sm + totF (N.fol.take k) : Nat) : Int)) ∧ wr = w0) (fun _ i _ => nf - (Go.RowKit.intOf i).toNat)
  case atStart => exact ⟨0, sm, by omega, rfl, rfl, hidden (fun _ => by rw [H0.out]; rfl), rfl⟩
  case round =>
    obtain ⟨k, x, hk, rfl, rfl, HX, rfl⟩ := hrel
    obtain ⟨b0, b1, b2, b3, b4⟩ := HBX.out wr HB0.out
    by_cases hlt : k < nf
    · obtain ⟨b, off, a', c', rfl, hb, hc, _⟩ := HFO.out wr HBA.out k hlt
      obtain ⟨l, hl⟩ : ∃ l, l = (N.fol.getD k []).length := ⟨_, rfl⟩
      have HK := hidden (HMO.out k hlt)
      rw [← hl] at hc HK
      have HLK := hidden (HLE.out k)
      clear hl
      go_wp2
      go_roundw
      case rel =>
        refine ⟨k + 1, _, by omega, rfl, rfl, hidden (fun h => ?_), trivial⟩
        have h1 := HX.out h
        have h2 := HLK.out
        rw [HK.out, h1]
        unfold wrap64
        omega
      case measure => simp [Go.RowKit.intOf]; omega
    · have e : k = nf := by omega
      subst e
      have HB := hidden HBA.out
      by_cases h60 : k ≤ 60
      · have hx := HX.out h60
        rw [HALL.out] at hx
        obtain ⟨tt, htt⟩ : ∃ t, t = sm + totF N.fol := ⟨_, rfl⟩
        rw [← htt] at hx
        have HTT := hidden htt
        subst hx
        by_cases h4 : tt ≤ 400
        · have q0 : decide (k ≤ 60) = true := decide_eq_true h60
          have q1 : decide ((k : Int) ≤ 60) = true := decide_eq_true (by omega)
          have q2 : decide ((tt : Int) ≤ 400) = true := decide_eq_true (by omega)
          have q3 : decide (tt ≤ 400) = true := decide_eq_true h4
          have HE := hidden (show smallB N = true by rw [HF.out, q0, ← HTT.out, q3]; rfl)
          clear h60 h4 htt
          go_wp2
          go_ret
          exact ⟨ret_b HE.out.symm, HB.out⟩
        · have q0 : decide (k ≤ 60) = true := decide_eq_true h60
          have q1 : decide ((k : Int) ≤ 60) = true := decide_eq_true (by omega)
          have q2 : decide ((tt : Int) ≤ 400) = false := decide_eq_false (by omega)
          have q3 : decide (tt ≤ 400) = false := decide_eq_false h4
          have HE := hidden (show smallB N = false by rw [HF.out, q0, ← HTT.out, q3]; rfl)
          clear h60 h4 htt
          go_wp2
          go_ret
          exact ⟨ret_b HE.out.symm, HB.out⟩
      · have q0 : decide (k ≤ 60) = false := decide_eq_false h60
        have q1 : decide ((k : Int) ≤ 60) = false := decide_eq_false (by omega)
        have HE := hidden (show smallB N = false by rw [HF.out, q0]; rfl)
        clear h60
        go_wp2
        go_ret
        exact ⟨ret_b HE.out.symm, HB.out⟩
end Go.Proofs.YtbokhofdgdcpdaaDoor
