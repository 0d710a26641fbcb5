/- MuKn, SpOpen, FuOpenN, DfSmallM, put together. -/
import Derived.Test.YtgaadndhecokfaaMu24
import Derived.Test.YtgaadndhecokfaaMu25
import Derived.Test.YtgaadndhecokfaaMu31
import Derived.Test.YtgaadndhecokfaaMu32
import Derived.Test.YtgaadndhecokfaaMu36
import Derived.Test.YtgaadndhecokfaaMu27
import Derived.Laws.IdiomArrays
import Derived.Deep.Slices
import Derived.LaidMore
import Derived.Lay
import Derived.Lib.LaidTab
import Derived.SevenTiedAt
import Derived.Stop.Joined
import Derived.Test.YtgaadndhecokfaaMu12
import Derived.SizedLaws
import Derived.Test.YtgaadndhecokfaaMu13
/- What the law's knows answers. -/
namespace Go.Proofs.Ytgaadndhecokfaa
open Go.RowKit Go.Lib Go.Joins

theorem wpl_any16 {o : Oper} {a : Act} {w : World} {K : Act → World → Prop} {Q : Exit → Act → World → Prop} {t : TypeId} {x : Operand} {p : Addr} {v : Value} (ho : o.op = .load t x) (hx : a.eval x = .pointer (some p))
    (hl : (loadVar t p).run Try.prog w = .ok v w) (h : K (a.put o.dst v) w) : Oper.wp Try.prog o a w K Q := by
  unfold Oper.wp execOp
  simp only [ho, hx, Instr.loadAt, Instr.sureAddr, Sem.run_bind, Sem.run_pure, Result.andThen_ok, hl]
  exact h
theorem rowX_kept16 {w w' : World} {base : Nat} {v : Value} {L : List Stp} (h : RowX w base v L) (hb : Below w.heap.size w w') : RowX w' base v L :=
  World.ownsRow.kept (row := none) h ⟨hb.os, hb.tape, hb.output, hb.size, fun k hk _ => hb.block k hk⟩ (by cases v.ownBlock <;> simp)
theorem k16_cut : cutS (machB (fuseM twoT) 50) ⟨#[97, 97, 98]⟩ = [(0, ⟨#[97, 97]⟩), (-1, ⟨#[98]⟩)] := by decide +kernel
theorem k16_whole : wholeV (machB (fuseM twoT) 50) (1, ⟨#[97, 98]⟩) = true := by decide +kernel
theorem k16_wide : ∀ s ∈ (fuseM twoT).sets, s.wide := by
  unfold Stp.wide
  decide +kernel
theorem k16_sz : (fuseM twoT).sets.length = 3 ∧ (fuseM twoT).fol.length = 3 ∧ (fuseM twoT).fol.all (fun l => decide (l.length ≤ 1000)) = true := by decide +kernel
theorem fol_few16 {N : NetM} (ha : N.fol.all (fun l => decide (l.length ≤ 1000)) = true) (i : Nat) : (N.fol.getD i []).length ≤ 1000 := by
  rw [List.getD_eq_getElem?_getD]
  cases e : N.fol[i]? with
  | none => simp
  | some l =>
    have := List.all_eq_true.1 ha l (List.mem_of_getElem? e)
    simpa using this
theorem RdP.two {w : World} {b : Nat} {p q : Pc} (h : w.heap[b]? = some (.cells #[.int .i64 p.1, .string p.2, .int .i64 q.1, .string q.2] 33 (0, 0))) : RdP (b + 1) w (.slice (some ⟨b, 0, none⟩) 2 2) [p, q] :=
  ⟨_, 2, rfl, Nat.le_refl _, by decide, fun _ => ⟨b, 0, rfl, by omega, fun i hi => by
    have e : i = 0 ∨ i = 1 := by
      have : i < 2 := hi
      omega
    rcases e with rfl | rfl
    · exact ⟨cell_of_row w b 0 _ _ _ h, cell_of_row w b 1 _ _ _ h⟩
    · exact ⟨cell_of_row w b 2 _ _ _ h, cell_of_row w b 3 _ _ _ h⟩⟩⟩
set_option maxHeartbeats 8000000 in
set_option maxRecDepth 100000 in
theorem knows16_calls (w : World) : Calls Try.prog 8 #[] w fun e w' => e = .returned (.bool true) ∧ Below w.heap.size w w' := by
  have hal := run_zero_dfa
  go_enter Try.func8, Try.ntmps8
  go_wp2_with fail
  refine (ap_read _).mono ?_
  rintro e w1 ⟨⟨v1, rfl, hr1⟩, hb1⟩
  have HB1 := hidden hb1
  have HR1 := hidden hr1
  obtain ⟨a1, c1, rfl⟩ : ∃ a c, v1 = .slice a 2 c := by
    rcases ownsRow_forms hr1 with ⟨rfl, h0⟩ | ⟨g, cap, rfl⟩
    · cases h0
    · exact ⟨_, _, rfl⟩
  clear hr1 hb1
  go_wp2_with fail
  refine (ab_read _).mono ?_
  rintro e w2 ⟨⟨v2, rfl, hr2⟩, hb2⟩
  have HR2 := hidden hr2
  have HR1b := hidden (rowX_kept16 HR1.out hb2)
  have HB2 := hidden (below_after HB1.out hb2)
  obtain ⟨a2, c2, rfl⟩ : ∃ a c, v2 = .slice a 3 c := by
    rcases ownsRow_forms hr2 with ⟨rfl, h0⟩ | ⟨g, cap, rfl⟩
    · cases h0
    · exact ⟨_, _, rfl⟩
  clear hr2 hb2
  go_wp2_with fail
  refine (rFuse_calls (toks_two w2 _ _ _ _ _ _ _ _ rfl (HR1b.out.reads.below fun b hb => ⟨hb.2, rfl⟩) (HR2.out.reads.below fun b hb => ⟨hb.2, rfl⟩)) (fun b hb => hb) two_few).mono ?_
  rintro e w3 ⟨vs, vo, vl, vf, v1, rfl, hr3, hb3⟩
  have HB3 := hidden (below_then (HB2.out.alloc HB2.out.size _) (by have := HB2.out.size; simp; omega) hb3)
  have HBU := hidden (rBuild_calls 50 hr3 k16_wide (by rw [k16_sz.1]; omega) (fol_few16 k16_sz.2.2))
  clear hr3 hb3 HR1 HR2 HR1b
  unfold netV
  dsimp only
  go_wp2_with fail
  refine HBU.out.mono ?_
  rintro e w4 ⟨vn, vl4, rfl, hr4, hb4⟩
  obtain ⟨D, hD⟩ : ∃ D, D = machB (fuseM twoT) 50 := ⟨_, rfl⟩
  have HCUT := hidden (show cutS D ⟨#[97, 97, 98]⟩ = [(0, ⟨#[97, 97]⟩), (-1, ⟨#[98]⟩)] by rw [hD]; exact k16_cut)
  have HWHO := hidden (show wholeV D (1, ⟨#[97, 98]⟩) = true by rw [hD]; exact k16_whole)
  rw [← hD] at hr4 ⊢
  clear hD HBU
  have HB4 := hidden (below_then HB3.out HB3.out.size hb4)
  have HR4 := hidden hr4
  obtain ⟨an, cn, rfl⟩ := hr4.next.form
  obtain ⟨al, cl, rfl⟩ := hr4.label.form
  clear hr4 hb4 HB3
  obtain ⟨er, her⟩ : ∃ x, x = errB (fuseM twoT) 50 := ⟨_, rfl⟩
  obtain ⟨ct, hct⟩ : ∃ x, x = cntB (fuseM twoT) 50 := ⟨_, rfl⟩
  rw [← her, ← hct]
  clear her hct
  dsimp only
  go_wp2_with (first
    | (refine store_dfa rfl (x := .tmp 7) (y := .tmp 28) rfl rfl rfl (DfaAt.new w4 zG 0 (.slice none 0 0) (.slice none 0 0)) rfl rfl ?_; intro w5 hA5 hg5 hs5; have HA5 := hidden hA5; have HB5 := hidden ((HB4.out.alloc HB4.out.size (.cells (dfaC zG 0 (.slice none 0 0) (.slice none 0 0)) 26)).grown hg5 (by have := HB4.out.size; simp; omega) (by intro k hk; simp only [Option.some.injEq] at hk; have := HB4.out.size; omega)); have HB45 := hidden (((Below.refl w4.heap.size w4).alloc (Nat.le_refl _) (.cells (dfaC zG 0 (.slice none 0 0) (.slice none 0 0)) 26)).grown hg5 (by simp) (by intro k hk; simp only [Option.some.injEq] at hk; omega)); clear hA5 hg5 hs5)
    | fail)
  have HR5 := hidden (HR4.out.below HB45.out HB45.out.size)
  obtain ⟨RB, hRB⟩ : ∃ b, b = w4.heap.size := ⟨_, rfl⟩
  rw [← hRB] at HA5 ⊢
  clear hRB hal HB45 HR4
  refine wpl_any16 (x := .tmp 7) rfl rfl (run_load_dfa HA5.out) ?_
  simp only [Act.put, List.setIfInBounds_toArray, List.set_cons_zero, List.set_cons_succ]
  go_wp2_with fail
  refine (cut16_calls ⟨#[97, 97, 98]⟩ HR5.out (by decide)).mono ?_
  rintro e w6 ⟨v6, rfl, hr6, hb6⟩
  rw [HCUT.out] at hr6
  obtain ⟨a6, c6, rfl⟩ := hr6.form
  have HR6 := hidden hr6.reads
  have HB6 := hidden (below_then HB5.out HB5.out.size hb6)
  have HA6 := hidden (HA5.out.below hb6)
  have HD6 := hidden (HR5.out.below hb6 hb6.size)
  clear hr6 hb6
  have hb7 := (Below.refl w6.heap.size w6).alloc (Nat.le_refl _) (.cells #[.int .i64 0, .string ⟨#[97, 97]⟩, .int .i64 (-1), .string ⟨#[98]⟩] 33)
  have HS := hidden (rsame16_calls (HR6.out.below hb7 hb7.size) ((RdP.two (p := (0, ⟨#[97, 97]⟩)) (q := (-1, ⟨#[98]⟩)) (heap_alloc_new w6 _)).below (Below.refl _ _) (by simp)))
  rw [show sameP [(0, ⟨#[97, 97]⟩), (-1, ⟨#[98]⟩)] [((0 : Int), (⟨#[97, 97]⟩ : ByteArray)), (-1, ⟨#[98]⟩)] = true by decide] at HS
  have HB7 := hidden (below_then HB6.out HB6.out.size hb7)
  have HA7 := hidden (HA6.out.below hb7)
  have HD7 := hidden (HD6.out.below hb7 hb7.size)
  clear hb7
  go_wp2_with fail
  refine HS.out.mono ?_
  rintro e w8 ⟨rfl, hb8⟩
  have HB8 := hidden (below_then HB7.out HB7.out.size hb8)
  have HA8 := hidden (HA7.out.below hb8)
  have HW8 := hidden (whole16_calls (1, ⟨#[97, 98]⟩) (HD7.out.below hb8 hb8.size) (by decide))
  rw [HWHO.out] at HW8
  dsimp only at HW8
  clear hb8
  go_wp2_with fail
  refine wpl_any16 (x := .tmp 7) rfl rfl (run_load_dfa HA8.out) ?_
  simp only [Act.put, List.setIfInBounds_toArray, List.set_cons_zero, List.set_cons_succ]
  go_wp2_with fail
  refine HW8.out.mono ?_
  rintro e w9 ⟨rfl, hb9⟩
  go_wp2
  go_ret
  exact ⟨rfl, below_then HB8.out HB8.out.size hb9⟩
end Go.Proofs.Ytgaadndhecokfaa

/- What comes in (steps), the listed table as it is laid, the card out of the row. -/
namespace Go.Proofs.Ytgaadndhecokfaa
open Go.ChangeShapes Go.WideShapes Go.ChangeAt Go.RowKit Go.Deep Go.Joins
set_option maxRecDepth 100000

theorem SlX.later {w W : World} {v : Value} {L : List Stp} (h : SlX (fun b => b < w.heap.size) w v L) (hb : Below w.heap.size w W) : SlX (fun b => b < W.heap.size) W v L := h.below fun b hlt => ⟨Nat.lt_of_lt_of_le hlt hb.size, hb.block b hlt⟩
theorem SlX.len {C : Nat → Prop} {w : World} {a : Option Addr} {l c : Nat} {L : List Stp} (h : SlX C w (.slice a l c) L) : l = L.length := by
  obtain ⟨_, _, e, _⟩ := h
  simp only [Value.slice.injEq] at e
  exact e.2.1
end Go.Proofs.Ytgaadndhecokfaa

/- A net that came in, by value. -/
namespace Go.Proofs.Ytgaadndhecokfaa
open Go.ChangeShapes Go.WideShapes Go.ChangeAt Go.RowKit Go.Deep Go.Joins
set_option maxRecDepth 100000
/-- a slice, each of whose elements is of a kind -/
theorem open_kind {H : Type} {enc : TypeId × Value → H} {W : World} {t e : TypeId} {k fuel : Nat} {v : Value} {x : DataW H × List MemPlace} (El : List Value → Prop) (ht : Try.prog.underlying t = some (.slice e)) (hc : Try.prog.cellsOf e = k) (hk : 0 < k)
    (hel : ∀ n cs y, cs.length = k → DataW.trod enc Try.prog W 0 (fun _ => true) true n e cs = some y → El cs) (h : DataW.trod enc Try.prog W 0 (fun _ => true) true fuel t [v] = some x) :
    ∃ a len cap, v = .slice a len cap ∧ len ≤ cap ∧ cap ≤ maxLen ∧ (a = none → cap = 0) ∧ (len = 0 ∨ ∃ es sp, x.1 = .slice es sp ∧ es.length = len) ∧ (0 < len → ∃ b off, a = some ⟨b, off, none⟩ ∧ b < W.heap.size ∧ ∀ i, i < len → ∃ cs, cs.length = k ∧ El cs ∧ ∀ j u, cs[j]? = some u → W.cell? ⟨b, off + i * k + j, none⟩ = some u) := by
  rcases open_slice ht h with ⟨hcs, _⟩ | ⟨ad, len, cap, m, n, D, Pl, hcs, _, hl, hm, hmm, hx, hi⟩
  · simp at hcs
    exact ⟨none, 0, 0, hcs, Nat.le_refl _, by decide, fun _ => rfl, .inl rfl, fun h => absurd h (by decide)⟩
  · simp at hcs
    have hm' : m = cap := by simpa using hmm
    subst hm'
    refine ⟨some ad, len, m, hcs, hl, hm, (fun e => by cases e), .inr ⟨_, _, by rw [hx], by simp⟩, fun hp => ?_⟩
    have each : ∀ i, i < len → ∃ cs : List Value, cs.length = k ∧ El cs ∧ ∀ j u, cs[j]? = some u → W.cell? (ad.add (i * k + j)) = some u := fun i hi' => by
      obtain ⟨cs', hcs', htr⟩ := hi i (by omega)
      rw [hc] at hcs'
      obtain ⟨_, hlen, hcell⟩ := World.cells?_some hcs'
      refine ⟨cs', hlen, hel _ _ _ hlen htr, fun j u hj => ?_⟩
      have hj' : j < k := by have := (List.getElem?_eq_some_iff.1 hj).1; omega
      have := hcell j hj'
      rw [Go.Deep.add_add] at this
      rw [this]
      exact hj
    obtain ⟨b, off, spot⟩ := ad
    have hspot : spot = none := by
      obtain ⟨cs, h1, _, h3⟩ := each 0 hp
      have h0 := h3 0 cs[0] (List.getElem?_eq_getElem (by omega))
      simpa [Addr.add] using World.cell?_spot h0
    subst hspot
    refine ⟨b, off, rfl, ?_, fun i hi' => ?_⟩
    · obtain ⟨cs, h1, _, h3⟩ := each 0 hp
      have h0 := h3 0 cs[0] (List.getElem?_eq_getElem (by omega))
      rw [Addr.add_lit] at h0
      exact cell_lt h0
    · obtain ⟨cs, h1, h2, h3⟩ := each i hi'
      refine ⟨cs, h1, h2, fun j u hj => ?_⟩
      have := h3 j u hj
      rwa [Addr.add_lit, ← Nat.add_assoc] at this
section
variable {H : Type} {enc : TypeId × Value → H} {W : World} {fuel : Nat} {v : Value} {x : DataW H × List MemPlace}
theorem open_rdZ {t : TypeId} (ht : Try.prog.underlying t = some (.slice 3)) (h : DataW.trod enc Try.prog W 0 (fun _ => true) true fuel t [v] = some x) : ∃ l, RdZ W.heap.size W v l ∧ (l.length = 0 ∨ ∃ es sp, x.1 = .slice es sp ∧ es.length = l.length) := by
  obtain ⟨a, len, cap, rfl, h1, h2, h3, h4, h5⟩ := open_kind (k := 1) (fun cs => ∃ z, cs = [.int .i64 z]) ht (by kernel_rfl) (by decide) (fun n cs y _ hy => by
    obtain ⟨z, e, _⟩ := DataW.trod_int Try.underlying3 hy
    exact ⟨z, e⟩) h
  by_cases hp : 0 < len
  · obtain ⟨b, off, rfl, hb, hc⟩ := h5 hp
    obtain ⟨q, hq⟩ := choose_lt (p := fun i z => W.cell? ⟨b, off + i, none⟩ = some (.int .i64 z)) fun i hi => by
      obtain ⟨cs, _, ⟨z, rfl⟩, hcell⟩ := hc i hi
      exact ⟨z, by simpa using hcell 0 _ rfl⟩
    refine ⟨(List.range len).map q, ⟨_, cap, by rw [List.length_map, List.length_range], by simpa using h1, h2, (fun e => by cases e), fun _ => ⟨b, off, rfl, hb, fun i hi => ?_⟩⟩, by simpa using h4⟩
    have hi' : i < len := by simpa using hi
    rw [hq i hi']
    simp [List.getD_eq_getElem?_getD, hi']
  · obtain rfl : len = 0 := by omega
    exact ⟨[], ⟨a, cap, rfl, h1, h2, h3, fun h => absurd h (by simp)⟩, .inl rfl⟩
theorem open_rdZZ {t : TypeId} (ht : Try.prog.underlying t = some (.slice 24)) (h : DataW.trod enc Try.prog W 0 (fun _ => true) true fuel t [v] = some x) : ∃ l, RdZZ W.heap.size W v l := by
  obtain ⟨a, len, cap, rfl, h1, h2, h3, h4, h5⟩ := open_kind (k := 1) (fun cs => ∃ u l, cs = [u] ∧ RdZ W.heap.size W u l) ht (by kernel_rfl) (by decide) (fun n cs y hl hy => by
    match cs, hl with
    | [u], _ =>
      obtain ⟨l, hl, _⟩ := open_rdZ Try.underlying24 hy
      exact ⟨u, l, rfl, hl⟩) h
  by_cases hp : 0 < len
  · obtain ⟨b, off, rfl, hb, hc⟩ := h5 hp
    obtain ⟨q, hq⟩ := choose_lt (p := fun i (l : List Int) => ∃ u, W.cell? ⟨b, off + i, none⟩ = some u ∧ RdZ W.heap.size W u l) fun i hi => by
      obtain ⟨cs, _, ⟨u, l, rfl, hr⟩, hcell⟩ := hc i hi
      exact ⟨l, u, by simpa using hcell 0 _ rfl, hr⟩
    refine ⟨(List.range len).map q, ⟨_, cap, by rw [List.length_map, List.length_range], by simpa using h1, h2, (fun e => by cases e), fun _ => ⟨b, off, rfl, hb, fun i hi => ?_⟩⟩⟩
    have hi' : i < len := by simpa using hi
    have hg : ((List.range len).map q).getD i [] = q i := by simp [List.getD_eq_getElem?_getD, hi']
    rw [hg]
    exact hq i hi'
  · obtain rfl : len = 0 := by omega
    exact ⟨[], ⟨a, cap, rfl, h1, h2, h3, fun h => absurd h (by simp)⟩⟩
end
end Go.Proofs.Ytgaadndhecokfaa

/- Small: what is known of a machine that is. -/
namespace Go.Proofs.Ytgaadndhecokfaa
open Go.RowKit Go.Lib Go.Joins
def totM (F : List (List Int)) : Nat := (F.map fun l => min l.length 10000).sum
theorem totM_more (F : List (List Int)) (k : Nat) (hk : k < F.length) : totM (F.take (k + 1)) = totM (F.take k) + min (F.getD k []).length 10000 := by
  unfold totM
  rw [List.take_succ_eq_append_getElem hk, List.map_append, List.sum_append, List.getD_eq_getElem?_getD, List.getElem?_eq_getElem hk]
  simp
theorem totM_le (F : List (List Int)) : totM F ≤ F.length * 10000 := by
  unfold totM
  induction F with
  | nil => simp
  | cons L r ih => simp only [List.map_cons, List.sum_cons, List.length_cons]; omega
def smallM (D : DfaM) : Bool := decide (D.next.length ≤ 300) && (decide (D.label.length ≤ 300) && decide (totM D.next ≤ 10000))
set_option maxHeartbeats 4000000 in
set_option maxRecDepth 100000 in
theorem smallM_calls {w : World} {vn vl : Value} {D : DfaM} (h : RdDfa w.heap.size w vn vl D) : Calls Try.prog 7 #[dfaA D.cls D.width vn vl] w fun e w' => e = .returned (.bool (smallM D)) ∧ Below w.heap.size w w' := by
  obtain ⟨an, cn, rfl⟩ := h.next.form
  obtain ⟨al, cl, rfl⟩ := h.label.form
  have HFB := hidden (show D.next.length ≤ 9223372036854775807 from by obtain ⟨_, _, e, h1, h2, _⟩ := h.next; simp only [Value.slice.injEq] at e; unfold maxLen at h2; omega)
  have hlb : D.label.length ≤ 9223372036854775807 := by obtain ⟨_, _, e, h1, h2, _⟩ := h.label; simp only [Value.slice.injEq] at e; unfold maxLen at h2; omega
  have HFO := hidden (fun W (hb : Below w.heap.size w W) i (hi : i < D.next.length) => h.next.at hb i hi)
  have HF := hidden (show smallM D = (decide (D.next.length ≤ 300) && (decide (D.label.length ≤ 300) && decide (totM D.next ≤ 10000))) from rfl)
  have HMO := hidden (fun k (hk : k < D.next.length) => totM_more D.next k hk)
  have HLE := hidden (fun k => (show totM (D.next.take k) ≤ k * 10000 from Nat.le_trans (totM_le _) (Nat.mul_le_mul_right _ (by rw [List.length_take]; omega))))
  have HALL := hidden (show totM (D.next.take D.next.length) = totM D.next by rw [List.take_length])
  have H0 := hidden (show totM (D.next.take 0) = 0 by simp [totM])
  obtain ⟨nf, hnf⟩ : ∃ k, k = D.next.length := ⟨_, rfl⟩
  obtain ⟨nl, hnl⟩ : ∃ k, k = D.label.length := ⟨_, rfl⟩
  rw [← hnf] at HFO HF HMO HALL HFB ⊢
  rw [← hnl] at HF hlb ⊢
  have HX := hidden (DfaAt.new w D.cls D.width (.slice an nf cn) (.slice al nl cl))
  have HB0 := hidden ((Below.refl w.heap.size w).alloc (Nat.le_refl _) (.cells (dfaC D.cls D.width (.slice an nf cn) (.slice al nl cl)) 26))
  have hbx := run_box_dfa D.cls D.width (.slice an nf cn) (.slice al nl cl)
  have hnfb := HFB.out
  clear h hnf hnl
  go_enter Try.func7, Try.ntmps7
  go_wp2
  obtain ⟨w0, hw0⟩ : ∃ w0, w0 = w.alloc (.cells (dfaC D.cls D.width (.slice an nf cn) (.slice al nl cl)) 26) := ⟨_, rfl⟩
  rw [← hw0] at HX HB0 ⊢
  clear hw0
  have e2 := HX.out.next
  have e3 := HX.out.label
  go_loopw [3, 4] (fun av i wr => ∃ (k : Nat) (x : Int), k ≤ nf ∧ av = .int .i64 x ∧ i = .int .i64 k ∧ Hid (nf ≤ 300 → x = (totM (D.next.take k) : Nat)) ∧ wr = w0) (fun _ i _ => nf - (Go.RowKit.intOf i).toNat)
  case atStart => exact ⟨0, 0, by omega, rfl, rfl, hidden (fun _ => by rw [H0.out]; rfl), rfl⟩
  case round =>
    obtain ⟨k, x, hk, rfl, rfl, HXX, rfl⟩ := hrel
    by_cases hlt : k < nf
    · obtain ⟨b, off, a', c', rfl, hb, hc, _⟩ := HFO.out wr HB0.out k hlt
      obtain ⟨l, hl⟩ : ∃ l, l = (D.next.getD k []).length := ⟨_, rfl⟩
      have HK := hidden (HMO.out k hlt)
      rw [← hl] at hc HK
      have HLK := hidden (HLE.out k)
      clear hl
      go_wp2
      go_roundw
      case rel =>
        refine ⟨k + 1, _, by omega, rfl, rfl, hidden (fun h => ?_), trivial⟩
        have h1 := HXX.out h
        have h2 := HLK.out
        rw [HK.out, h1]
        unfold wrap64
        omega
      case measure => simp [Go.RowKit.intOf]; omega
    · have e : k = nf := by omega
      subst e
      have HB := hidden HB0.out
      by_cases h60 : k ≤ 300
      · have hx := HXX.out h60
        rw [HALL.out] at hx
        have q0 : decide (k ≤ 300) = true := decide_eq_true h60
        have q1 : decide ((k : Int) ≤ 300) = true := decide_eq_true (by omega)
        by_cases hl3 : nl ≤ 300
        · have q2 : decide (nl ≤ 300) = true := decide_eq_true hl3
          have q3 : decide ((nl : Int) ≤ 300) = true := decide_eq_true (by omega)
          obtain ⟨tt, htt⟩ : ∃ t, t = totM D.next := ⟨_, rfl⟩
          rw [← htt] at hx
          have HTT := hidden htt
          subst hx
          by_cases h4 : tt ≤ 10000
          · have q4 : decide ((tt : Int) ≤ 10000) = true := decide_eq_true (by omega)
            have HE := hidden (show smallM D = true by rw [HF.out, q0, q2, ← HTT.out, decide_eq_true h4]; rfl)
            clear h60 h4 htt hl3
            go_wp2
            go_ret
            exact ⟨ret_b HE.out.symm, HB.out⟩
          · have q4 : decide ((tt : Int) ≤ 10000) = false := decide_eq_false (by omega)
            have HE := hidden (show smallM D = false by rw [HF.out, q0, q2, ← HTT.out, decide_eq_false h4]; rfl)
            clear h60 h4 htt hl3
            go_wp2
            go_ret
            exact ⟨ret_b HE.out.symm, HB.out⟩
        · have q3 : decide ((nl : Int) ≤ 300) = false := decide_eq_false (by omega)
          have HE := hidden (show smallM D = false by rw [HF.out, decide_eq_false hl3, Bool.false_and, Bool.and_false])
          clear h60 hl3 hx
          go_wp2
          go_ret
          exact ⟨ret_b HE.out.symm, HB.out⟩
      · have q1 : decide ((k : Int) ≤ 300) = false := decide_eq_false (by omega)
        have HE := hidden (show smallM D = false by rw [HF.out, decide_eq_false h60, Bool.false_and])
        clear h60
        go_wp2
        go_ret
        exact ⟨ret_b HE.out.symm, HB.out⟩
end Go.Proofs.Ytgaadndhecokfaa
