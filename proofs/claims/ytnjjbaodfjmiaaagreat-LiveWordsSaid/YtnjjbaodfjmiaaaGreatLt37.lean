/- LvPTok, LvRev, LvCat, LvText, put together. -/
import Derived.Test.YtnjjbaodfjmiaaaGreatLt35
import Derived.Test.YtnjjbaodfjmiaaaGreatLt36
import Derived.Deep.RegionLaw
import Derived.StillTailTactics
import Derived.Test.YtnjjbaodfjmiaaaGreatLt31
import Derived.Test.YtnjjbaodfjmiaaaGreatLt15
import Derived.Lib.AppendZerosOnto
import Derived.WalkMore
import Derived.Deep.LoopGhost
import Derived.Laws.IdiomStrings
/- Contract of the program's Tokens. -/
namespace Go.Proofs.YtnjjbaodfjmiaaaGreat
open Go.RowKit Go.Lib Go.Joins

/-- the labels that were met so far -/
def tokP (D : DfaM) (pre : List Vis) : List Int := pre.flatMap fun x => if D.label.getD x.1 0 = -1 then [] else [D.label.getD x.1 0]
theorem tokP_snoc (D : DfaM) (pre : List Vis) (x : Vis) : tokP D (pre ++ [x]) = tokP D pre ++ if D.label.getD x.1 0 = -1 then [] else [D.label.getD x.1 0] := by simp [tokP]
theorem tokP_len (D : DfaM) (pre : List Vis) : (tokP D pre).length ≤ pre.length := by
  induction pre with
  | nil => exact Nat.le_refl _
  | cons x r ih =>
    have h : tokP D (x :: r) = (if D.label.getD x.1 0 = -1 then [] else [D.label.getD x.1 0]) ++ tokP D r := by simp [tokP]
    rw [h, List.length_append, List.length_cons]
    split
    · rw [List.length_nil]; omega
    · rw [List.length_singleton]; omega
theorem RowZ.each {n base : Nat} {w w' : World} {v : Value} {l : List Int} (h : RowZ w base v l) (he : EachF n w w') : RowZ w' base v l := by
  refine ⟨h.1, ?_⟩
  rcases h.2 with h | ⟨g, cap, cur, e, hb, hg, rest⟩
  · exact .inl h
  · exact .inr ⟨g, cap, cur, e, hb, (he.block g (Array.getElem?_eq_some_iff.1 hg).1 (.inr ⟨cur, _, hg⟩)).trans hg, rest⟩
theorem RowZ.off {base b : Nat} {w : World} {v : Value} {l : List Int} (h : RowZ w base v l) {t : TypeId} {cs : Array Value} {fr : Nat × Nat} (hb : w.heap[b]? = some (.cells cs t fr)) (hne : t ≠ 3) : v.ownBlock ≠ some b :=
  (QRow.of h).off_type hb hne
theorem RowZ.grownOff {base : Nat} {w w' : World} {v : Value} {l : List Int} (h : RowZ w base v l) {o : Option Nat} (hg : w.grownBy w' o) (ho : ∀ k, v.ownBlock = some k → o ≠ some k) : RowZ w' base v l := by
  refine ⟨h.1, ?_⟩
  rcases h.2 with h | ⟨g, cap, cur, e, hb, hgg, rest⟩
  · exact .inl h
  · exact .inr ⟨g, cap, cur, e, hb, (hg.block g (Array.getElem?_eq_some_iff.1 hgg).1 (fun e2 => ho g (by rw [e]; rfl) e2.symm)).trans hgg, rest⟩
theorem RowZ.isRow {base k : Nat} {w : World} {v : Value} {l : List Int} (h : RowZ w base v l) (hk : v.ownBlock = some k) : base ≤ k ∧ ∃ cs fr, w.heap[k]? = some (.cells cs 3 fr) := by
  rcases h.2 with ⟨e, _⟩ | ⟨g, cap, cur, e, hb, hgg, rest⟩
  · rw [e] at hk; cases hk
  · rw [e] at hk
    simp only [Value.ownBlock, Option.some.injEq] at hk
    subst hk
    exact ⟨hb, cur, _, hgg⟩
/-- what is met so far, in memory -/
structure TkJ (base : Nat) (w : World) (DB LB : Nat) (D : DfaM) (vn vl : Value) (pre : List Vis) (W : World) : Prop where
  d : DfaAt W DB D.cls D.width vn vl
  l : ∃ v, Boxed W LB 24 v ∧ RowZ W base v (tokP D pre)
  b : Below base w W
  s : base ≤ W.heap.size
set_option maxHeartbeats 8000000 in
set_option maxRecDepth 100000 in
theorem tok1_calls {w W : World} {base DB LB n s : Nat} {u : List Nat} {pre : List Vis} {bv ov vn vl : Value} {D : DfaM} (hj : TkJ base w DB LB D vn vl pre W) (hs : s < D.label.length) (_hll : D.label.length ≤ 1000) (hlo : base ≤ LB) (hn : LB < n) (hne : DB ≠ LB) (hpre : pre.length ≤ 1000) (hl : RdZ base w vl D.label) (hw : WordAt W bv ov u) :
    Calls Tryz.prog 36 (#[.int .i64 (s : Nat), .agg #[bv, ov]] ++ #[.pointer (some ⟨DB, 0, none⟩), .pointer (some ⟨LB, 0, none⟩)]) W (SeeR n W (TkJ base w DB LB D vn vl (pre ++ [(s, u)])) fun _ => False) := by
  obtain ⟨hd, ⟨v, hbx, hrow⟩, hB, hbs⟩ := hj
  obtain ⟨x, a, k, c, rfl, rfl⟩ := hw.form
  obtain ⟨al, cl, rfl⟩ := hl.form
  obtain ⟨la, lc, hv⟩ := hrow.form
  subst hv
  obtain ⟨ln, hln⟩ : ∃ m, m = D.label.length := ⟨_, rfl⟩
  have hb1 : Below W.heap.size W (W.alloc (.cells #[.pointer x, .slice a k c] 52)) := (Below.refl _ _).alloc (Nat.le_refl _) _
  have hB1 := hB.alloc hbs (.cells #[.pointer x, .slice a k c] 52)
  obtain ⟨b9, o9, hal, hb9, q9⟩ := hl.atZ hB1 s hs
  subst hal
  have HD := hidden (hd.below hb1)
  have HX := hidden (show Boxed (W.alloc (.cells #[.pointer x, .slice a k c] 52)) LB 24 (.slice la (tokP D pre).length lc) from (hb1.block _ hbx.lt).trans hbx)
  have HRW := hidden (hrow.kept hb1)
  have HTL := hidden (show (tokP D pre).length ≤ 1000 from Nat.le_trans (tokP_len D pre) hpre)
  have HTS := hidden (tokP_snoc D pre (s, u))
  have HS0 := hidden (SeeF.of_below (n := n) hb1)
  have HBB := hidden hB1
  have HBS := hidden (show base ≤ (W.alloc (.cells #[.pointer x, .slice a k c] 52)).heap.size by simp; omega)
  have HLS := hidden (show LB < (W.alloc (.cells #[.pointer x, .slice a k c] 52)).heap.size from by have := hbx.lt; simp; omega)
  obtain ⟨lx, hlx⟩ : ∃ y, y = D.label.getD s 0 := ⟨_, rfl⟩
  have hsl : (s : Int) < (ln : Int) := by omega
  obtain ⟨tl, htl⟩ : ∃ m, m = (tokP D pre).length := ⟨_, rfl⟩
  simp only at HTS
  rw [← hln] at HD
  rw [← hlx] at q9 HTS
  rw [← htl] at HX HRW HTL
  have HTE := hidden htl
  have HLE := hidden hln
  have d1 := HD.out.label
  have x0 := HX.out.cell
  have x1 := HX.out.frozen
  show Calls Tryz.prog 36 #[.int .i64 (s : Nat), .agg #[.pointer x, .slice a k c], .pointer (some ⟨DB, 0, none⟩), .pointer (some ⟨LB, 0, none⟩)] W _
  rw [show W.alloc (.cells #[.pointer x, .slice a k c] 52) = W.alloc (.cells #[.pointer x, .slice a k c] 52) from rfl] at *
  by_cases hx1 : lx = -1
  · subst hx1
    rw [if_pos rfl, List.append_nil] at HTS
    have HJ := hidden (show TkJ base w DB LB D vn (.slice (some ⟨b9, o9, none⟩) D.label.length cl) (pre ++ [(s, u)]) (W.alloc (.cells #[.pointer x, .slice a k c] 52)) from
      ⟨by rw [← HLE.out]; exact HD.out, ⟨_, HX.out, by rw [HTS.out]; exact HRW.out⟩, HBB.out, HBS.out⟩)
    clear hd hbx hrow hB hbs hw hl hb1 hB1 hln htl hlx HLE HTE HTS HRW
    go_enter Tryz.func36, Tryz.ntmps36
    go_wp2
    go_ret
    exact ⟨HS0.out, .inl ⟨rfl, HJ.out⟩⟩
  · rw [if_neg hx1] at HTS
    have q1 : (lx == -1) = false := by simpa using hx1
    have q2 : (lx != -1) = true := by simpa using hx1
    have q3 : decide (lx = -1) = false := by simpa using hx1
    obtain ⟨W1, hW1⟩ : ∃ W1, W1 = W.alloc (.cells #[.pointer x, .slice a k c] 52) := ⟨_, rfl⟩
    have HW1 := hidden hW1
    have hal3 : Below W1.heap.size W1 (W1.drew.alloc (.cells #[.int .i64 lx] 3)) := (Below.refl W1.heap.size W1).drew.alloc (Nat.le_refl _) _
    rw [← hW1] at HD HX HRW HS0 HBB HBS HLS d1 x0 x1 q9
    have hBQ := HBB.out
    have HDa := hidden (HD.out.below hal3)
    have HXa := hidden (show Boxed (W1.drew.alloc (.cells #[.int .i64 lx] 3)) LB 24 (.slice la tl lc) from (hal3.block _ HX.out.lt).trans HX.out)
    have HRa := hidden (show (W1.drew.alloc (.cells #[.int .i64 lx] 3)).ownsRow base 3 1 (.slice la tl lc) tl ((tokP D pre).map (Value.int .i64)) from by have := HRW.out.kept hal3; unfold RowZ at this; rw [← htl] at this; exact this)
    have HBa := hidden (HBB.out.drew.alloc HBS.out (.cells #[.int .i64 lx] 3))
    have HSa := hidden (HS0.out.trans (SeeF.of_below hal3))
    have HBSa := hidden (show base ≤ (W1.drew.alloc (.cells #[.int .i64 lx] 3)).heap.size from by have := HBS.out; simp; omega)
    have HLNB := hidden (show tl + 1 ≤ 1000000 by have := HTL.out; omega)
    have HI := hidden infoInt
    have hQa := hidden ((HBB.out.drew.alloc HBS.out (.cells #[.int .i64 lx] 3)).cell (p := ⟨b9, o9 + s, none⟩) hb9 |>.trans ((hBQ.cell (p := ⟨b9, o9 + s, none⟩) hb9).symm.trans q9))
    clear hd hbx hrow hB hbs hw hl hb1 hB1 hln htl hlx hx1 hal3 hBQ hb9
    rw [hW1] at d1 x0 x1 q9
    clear hW1
    go_enter Tryz.func36, Tryz.ntmps36
    go_wp2_with fail
    rw [← HW1.out] at d1 x0 x1 q9 ⊢
    have dd1 := (show W1.drew.cell? ⟨DB, 258, none⟩ = some (.slice (some ⟨b9, o9, none⟩) ln cl) from d1)
    have dx0 := (show W1.drew.cell? ⟨LB, 0, none⟩ = some (.slice la tl lc) from x0)
    have dq9 := (show W1.drew.cell? ⟨b9, o9 + s, none⟩ = some (.int .i64 lx) from q9)
    have HOFF := hidden (show (Value.slice la tl lc).ownBlock ≠ some LB ∧ (Value.slice la tl lc).ownBlock ≠ some DB from ⟨(HRW.out).off HX.out (by decide), (HRW.out).off HD.out (by decide)⟩)
    have l6 := HXa.out.cell
    have l7 := HDa.out.label
    have l8 := (show (W1.drew.alloc (.cells #[.int .i64 lx] 3)).cell? ⟨b9, o9 + s, none⟩ = some (.int .i64 lx) from hQa.out)
    have m6 := (show (W1.alloc (.cells #[.int .i64 lx] 3)).cell? ⟨LB, 0, none⟩ = some (.slice la tl lc) from l6)
    have m7 := (show (W1.alloc (.cells #[.int .i64 lx] 3)).cell? ⟨DB, 258, none⟩ = some (.slice (some ⟨b9, o9, none⟩) ln cl) from l7)
    have m8 := (show (W1.alloc (.cells #[.int .i64 lx] 3)).cell? ⟨b9, o9 + s, none⟩ = some (.int .i64 lx) from l8)
    go_region_law (refine step_app (v := .slice la tl lc) rfl _ _ rfl HI.out Tryz.underlying24 rfl (by decide) (by decide) rfl HRa.out rfl (Src.one _ (.int .i64 lx) 3 _ rfl) (by simp) (by simp [Value.oneCell']) HLNB.out HBSa.out ?_; intro v9 w9 hA9; have HA9 := hidden hA9; have HX9 := hidden (show Boxed w9 LB 24 (.slice la tl lc) from (hA9.grown.block _ HXa.out.lt (fun e => HOFF.out.1 e.symm)).trans HXa.out); have r4 := HX9.out.cell; have hf9 := HX9.out.frozen; obtain ⟨a9, c9, hv9⟩ := row_slice14 hA9.own; subst hv9; clear hA9)
    all_goals
      have HR9 := hidden (show RowZ w9 base (.slice a9 (tl + 1) c9) (tokP D (pre ++ [(s, u)])) from by
        have := HA9.out.own
        unfold RowZ
        rw [HTS.out, List.length_append, ← HTE.out, List.map_append]
        exact this)
      have HRo := hidden (show RowZ (W1.drew.alloc (.cells #[.int .i64 lx] 3)) base (.slice la tl lc) (tokP D pre) from by have := HRa.out; unfold RowZ; rw [← HTE.out]; exact this)
      have HJ := hidden (show TkJ base w DB LB D vn (.slice (some ⟨b9, o9, none⟩) D.label.length cl) (pre ++ [(s, u)]) (w9.setCell ⟨LB, 0, none⟩ (.slice a9 (tl + 1) c9)) from
        ⟨by rw [← HLE.out]; exact (HDa.out.grown HA9.out.grown HOFF.out.2).put _ hne, ⟨_, HX9.out.set _, HR9.out.grownOff (setCell_grown w9 LB 0 _) fun k e e2 => HR9.out.off HX9.out (by decide) (by rw [e]; exact e2.symm)⟩,
          (HBa.out.grown HA9.out.grown HBSa.out fun k e => (HRo.out.isRow e).1).setCell (p := ⟨LB, 0, none⟩) hlo _, by have := HA9.out.grown.size; have := HBSa.out; simp at *; omega⟩)
      have HSF := hidden (show SeeF n W (w9.setCell ⟨LB, 0, none⟩ (.slice a9 (tl + 1) c9)) from
        (HSa.out.trans (SeeF.grown HA9.out.grown fun k e => by
          obtain ⟨_, cs, fr, h⟩ := HRo.out.isRow e
          exact ⟨cs, _, fr, h, .inr rfl, by decide, by decide⟩)).trans (SeeF.grown (setCell_grown w9 LB 0 _) fun k e => by
          obtain rfl := Option.some.inj e
          exact ⟨_, _, _, HX9.out, .inl hn, by decide, by decide⟩))
      clear d1 x0 x1 q9 dd1 dx0 dq9 l6 l7 l8 m6 m7 m8 r4 hf9
      go_wp2
      go_ret
      exact ⟨HSF.out, .inl ⟨rfl, HJ.out⟩⟩
theorem tokL_mem {D : DfaM} {x : Int} : ∀ {n : Nat}, x ∈ tokL D n ↔ ∃ i, i < n ∧ On (reachedL D) i ∧ 0 ≤ D.label.getD i 0 ∧ x = D.label.getD i 0
  | 0 => by simp [tokL]
  | n + 1 => by
    have ih := tokL_mem (D := D) (x := x) (n := n)
    unfold tokL
    rw [List.mem_append, ih]
    constructor
    · rintro (⟨i, hi, h⟩ | h)
      · exact ⟨i, by omega, h⟩
      · split at h
        · rename_i hc
          exact ⟨n, by omega, hc.1, hc.2, by simpa using h⟩
        · cases h
    · rintro ⟨i, hi, h1, h2, h3⟩
      by_cases e : i = n
      · subst e
        right
        rw [if_pos ⟨h1, h2⟩]
        simpa using h3
      · exact .inl ⟨i, by omega, h1, h2, h3⟩
theorem tokM_eq {D : DfaM} (hR : rightD D = true) : tokM D = ofV (tokP D (visA D)) := by
  unfold tokM
  refine up_ext (of_facts _).1 (of_facts _).1 fun x => ?_
  rw [(of_facts _).2, (of_facts _).2, tokL_mem]
  have hlab : ∀ i, i < D.next.length → -1 ≤ D.label.getD i 0 := fun i hi => ((rightD_spec hR).2.2.2.2 i hi).2.1
  unfold tokP
  rw [List.mem_flatMap]
  constructor
  · rintro ⟨i, hi, h1, h2, rfl⟩
    rw [reached_iff hR, ← vis_rch hR] at h1
    obtain ⟨v, hv, rfl⟩ := List.mem_map.1 h1
    refine ⟨v, hv, ?_⟩
    rw [if_neg (by omega)]
    simp
  · rintro ⟨v, hv, h⟩
    split at h
    · cases h
    · rename_i hn
      have hlt := (vis_sound hR v hv).lt hR
      have := hlab _ hlt
      refine ⟨v.1, by rw [reached_len hR]; exact hlt, ?_, by omega, by simpa using h⟩
      rw [reached_iff hR, ← vis_rch hR]
      exact List.mem_map.2 ⟨v, hv, rfl⟩
theorem visA_len {D : DfaM} (hR : rightD D = true) : (visA D).length ≤ D.next.length := by
  obtain ⟨_, _, h⟩ := vis_done hR
  exact h.len hR
set_option maxHeartbeats 8000000 in
set_option maxRecDepth 100000 in
theorem ltokens_calls {w : World} {vn vl : Value} {D : DfaM} (h : RdDfa w.heap.size w vn vl D) (hN : D.next.length ≤ 1000) :
    Calls Tryz.prog 20 #[dfaA D.cls D.width vn vl] w (RetZ w (tokM D)) := by
  have HR := hidden (fun w' (hb : Below w.heap.size w w') => right14_calls (h.below hb hb.size))
  have HD := hidden h
  have HNN := hidden hN
  have hbx := run_box_dfa D.cls D.width vn vl
  have HX := hidden (DfaAt.new w D.cls D.width vn vl)
  have HB0 := hidden ((Below.refl w.heap.size w).alloc (Nat.le_refl _) (.cells (dfaC D.cls D.width vn vl) 26))
  clear h hN
  go_enter Tryz.func20, Tryz.ntmps20
  go_wp2_with (refine load_dfa rfl (x := .tmp 1) rfl rfl HX.out ?_)
  refine (HR.out _ HB0.out).mono ?_
  rintro e w1 ⟨rfl, hb1⟩
  have HX1 := hidden (HX.out.below hb1)
  have HB1 := hidden (below_then HB0.out HB0.out.size hb1)
  clear hb1
  cases hr : rightD D with
  | false =>
    have HF := hidden (show tokM D = [] by unfold tokM reachedL; rw [if_neg (by simp [hr])]; rfl)
    clear hr
    go_wp2
    go_ret
    exact ⟨_, rfl, by rw [HF.out]; exact RowZ.nil _ _, HB1.out⟩
  | true =>
    have HRT := hidden hr
    have HTM := hidden (tokM_eq hr)
    have HVL := hidden (Nat.le_trans (visA_len hr) HNN.out)
    clear hr
    have HX2 := hidden (HX1.out.alloc (.cells #[.slice none 0 0] 24))
    have HB2 := hidden (HB1.out.alloc HB1.out.size (.cells #[.slice none 0 0] 24))
    have HL2 := hidden (show Boxed (w1.alloc (.cells #[.slice none 0 0] 24)) w1.heap.size 24 (.slice none 0 0) from Boxed.new _ _ _)
    have hlt := HX1.out.lt
    go_wp2_with (refine load_dfa rfl (x := .tmp 1) rfl rfl HX2.out ?_)
    have HS2 := hidden (show (w1.alloc (.cells #[.slice none 0 0] 24)).heap.size = w1.heap.size + 1 by simp)
    obtain ⟨w2, hw2⟩ : ∃ w2, w2 = w1.alloc (.cells #[.slice none 0 0] 24) := ⟨_, rfl⟩
    obtain ⟨LB, hLB⟩ : ∃ b, b = w1.heap.size := ⟨_, rfl⟩
    rw [← hw2] at HX2 HB2 HL2 HS2 ⊢
    rw [← hLB] at HL2 HS2 hlt ⊢
    have HD2 := hidden (HD.out.below HB2.out (Nat.le_refl _))
    have hlo : w.heap.size ≤ LB := by omega
    have hlb : LB < w2.heap.size := by have := HS2.out; omega
    have hne : w.heap.size ≠ LB := by omega
    have HJ0 := hidden (show TkJ w.heap.size w2 w.heap.size LB D vn vl [] w2 from ⟨HX2.out, ⟨_, HL2.out, RowZ.nil _ _⟩, Below.refl _ _, by omega⟩)
    clear hw2 hLB hlt hbx
    refine (each_calls (TkJ w.heap.size w2 w.heap.size LB D vn vl) (fun _ => False) (caps := #[.pointer (some ⟨w.heap.size, 0, none⟩), .pointer (some ⟨LB, 0, none⟩)]) HRT.out HNN.out HD.out.small (m0 := w.heap.size) HD2.out (by omega) (fun _ _ hj => hj.b) ?_ HJ0.out ?_ ?_).mono ?_
    · rintro pre W W' ⟨hd, ⟨v, hb, hrw⟩, hbe, hs⟩ hE
      exact ⟨(hE.block _ hd.lt (.inl (by omega))).trans hd, ⟨v, (hE.block _ hb.lt (.inl hlb)).trans hb, hrw.each hE⟩, below_join hbe (hE.below (by omega) hbe.size), Nat.le_trans hs hE.size⟩
    · exact fun args W => Go.MuLone.run_callFunc_enter Tryz.func36 (by kernel_rfl) rfl args W
    · intro pre x W bv ov hp hj hw hnsz
      have hin := (vis_sound HRT.out x (hp.subset (by simp))).lt HRT.out
      have hll := (rightD_spec HRT.out).2.2.2.1
      have hpl := hp.length_le
      rw [List.length_append] at hpl
      have := HVL.out
      exact tok1_calls hj (by omega) (by have := HNN.out; omega) hlo hlb hne (by omega) HD2.out.label hw
    · rintro e W ⟨rfl, ⟨hd, ⟨v, hbv, hrw⟩, hbe, hs⟩ | hf⟩
      · obtain ⟨a, c, hv⟩ := hrw.form
        subst hv
        have hlen : (tokP D (visA D)).length ≤ 1000 := Nat.le_trans (tokP_len D _) HVL.out
        have HBE := hidden (below_join HB2.out hbe)
        have HBV := hidden hbv
        have x0 := hbv.cell
        by_cases h0 : (tokP D (visA D)).length = 0
        · have HO := hidden (show tokM D = [] by rw [HTM.out]; exact of_short h0)
          have HRW := hidden (show RowZ W w.heap.size (.slice a 0 c) [] from by have := hrw; rw [List.eq_nil_of_length_eq_zero h0] at this; exact this)
          rw [h0] at x0
          clear hd hbv hrw hbe hs h0 hlen
          go_wp2_with fail
          refine (Go.Proofs.Tryz.slices_Sort_int_none _ _ _).mono ?_
          rintro e w1 ⟨rfl, rfl⟩
          go_wp2_with fail
          refine (Go.Proofs.Tryz.slices_Compact_int_empty _ _ _).mono ?_
          rintro e w1 ⟨rfl, rfl⟩
          go_wp2
          go_ret
          exact ⟨_, rfl, by rw [HO.out]; exact HRW.out, HBE.out⟩
        · obtain ⟨g, hg⟩ : ∃ g, a = some ⟨g, 0, none⟩ := by
            rcases ownsRow_forms hrw with ⟨e, _⟩ | ⟨g, cap, e⟩
            · simp only [Value.slice.injEq] at e; omega
            · simp only [Value.slice.injEq] at e; exact ⟨g, e.1⟩
          subst hg
          have HE := hidden (sorted_eq (tokP D (visA D)))
          have HSL := hidden (List.length_mergeSort (le := fun x y : Int => decide (x ≤ y)) (tokP D (visA D)))
          have HS := hidden (sort_row hrw (by omega))
          have hgb := (row_partsM hrw).choose_spec.2.1
          have hgl : LB ≠ g := fun e => hrw.off hbv (by decide) (by rw [e]; rfl)
          obtain ⟨n, hn⟩ : ∃ n, n = (tokP D (visA D)).length := ⟨_, rfl⟩
          rw [← hn] at HS x0 HBV
          have HN := hidden hn
          have HL := hidden hlen
          clear hd hbv hrw hbe hs h0 hlen hn
          go_wp2_with fail
          refine HS.out.mono ?_
          rintro e w5 ⟨rfl, hr2, hg2⟩
          have HB2 := hidden (HBE.out.grown hg2 HBE.out.size (fun k e => by simp only [Option.some.injEq] at e; omega))
          have HC2 := hidden (compact_row hr2 (by rw [HSL.out]; have := HL.out; omega))
          have x5 := (show Boxed w5 LB 24 (.slice (some ⟨g, 0, none⟩) n c) from (hg2.block _ HBV.out.lt (fun e => hgl (Option.some.inj e))).trans HBV.out).cell
          clear hr2 hg2 x0
          go_wp2_with fail
          refine HC2.out.mono ?_
          rintro e w6 ⟨⟨v3, rfl, hr3⟩, hg3⟩
          have HB3 := hidden (HB2.out.grown hg3 HB2.out.size (fun k e => by simp only [Option.some.injEq] at e; omega))
          have HR3 := hidden hr3
          clear hr3 hg3
          go_wp2
          go_ret
          exact ⟨_, rfl, by rw [HTM.out, ← HE.out]; exact HR3.out, HB3.out⟩
      · exact hf.elim
end Go.Proofs.YtnjjbaodfjmiaaaGreat

/- Contracts of slices.Reverse at lists of bytes, slices.Grow, slices.Concat at bytes. -/
namespace Go.Proofs.YtnjjbaodfjmiaaaGreat
open Go.RowKit Go.Lib Go.Joins

/-- the first n values, i of them and their partners in each other's place -/
def rvL (l : List Value) (n i : Nat) : List Value := (List.range l.length).map fun k => if k < n ∧ (k < i ∨ n - i ≤ k) then l.getD (n - 1 - k) undef else l.getD k undef
theorem rvL_len (l : List Value) (n i : Nat) : (rvL l n i).length = l.length := by simp [rvL]
theorem rvL_at (l : List Value) (n i : Nat) {k : Nat} (hk : k < l.length) : (rvL l n i).getD k undef = if k < n ∧ (k < i ∨ n - i ≤ k) then l.getD (n - 1 - k) undef else l.getD k undef := by
  rw [List.getD_eq_getElem?_getD, List.getElem?_eq_getElem (by rw [rvL_len]; exact hk)]
  simp [rvL]
theorem ext_getD {l m : List Value} (h : l.length = m.length) (hk : ∀ k, k < l.length → l.getD k undef = m.getD k undef) : l = m := by
  refine List.ext_getElem h fun k h1 h2 => ?_
  have := hk k h1
  rw [List.getD_eq_getElem?_getD, List.getD_eq_getElem?_getD, List.getElem?_eq_getElem h1, List.getElem?_eq_getElem h2] at this
  exact this
theorem getD_setV (l : List Value) (i k : Nat) (v : Value) (hk : k < l.length) : (l.set i v).getD k undef = if i = k then v else l.getD k undef := by
  rw [List.getD_eq_getElem?_getD, List.getElem?_set]
  split
  · rename_i e
    subst e
    simp [hk]
  · rw [List.getD_eq_getElem?_getD]
theorem rvL_zero (l : List Value) (n : Nat) : rvL l n 0 = l := by
  refine ext_getD (rvL_len _ _ _) fun k hk => ?_
  rw [rvL_len] at hk
  rw [rvL_at l n 0 hk, if_neg (by omega)]
theorem rvL_more (l : List Value) (n i : Nat) (_hn : n ≤ l.length) (hi : i < n - 1 - i) : ((rvL l n i).set i (l.getD (n - 1 - i) undef)).set (n - 1 - i) (l.getD i undef) = rvL l n (i + 1) := by
  refine ext_getD (by simp [rvL_len]) fun k hk => ?_
  rw [List.length_set, List.length_set, rvL_len] at hk
  rw [getD_setV _ _ _ _ (by rw [List.length_set, rvL_len]; exact hk), getD_setV _ _ _ _ (by rw [rvL_len]; exact hk), rvL_at l n i hk, rvL_at l n (i + 1) hk]
  by_cases h1 : n - 1 - i = k
  · subst h1
    rw [if_pos rfl, if_pos (by omega)]
    congr 1
    omega
  · rw [if_neg h1]
    by_cases h2 : i = k
    · subst h2
      rw [if_pos rfl, if_pos (by omega)]
    · rw [if_neg h2]
      by_cases h3 : k < n ∧ (k < i ∨ n - i ≤ k)
      · rw [if_pos h3, if_pos (by omega)]
      · rw [if_neg h3, if_neg (by omega)]
theorem rvL_done (l : List Value) (n i : Nat) (hn : n ≤ l.length) (hi : n ≤ i + 1 + i) : rvL l n i = (l.take n).reverse ++ l.drop n := by
  refine ext_getD (by simp [rvL_len]; omega) fun k hk => ?_
  rw [rvL_len] at hk
  rw [rvL_at l n i hk]
  conv => rhs; rw [List.getD_eq_getElem?_getD]
  have hl : (l.take n).reverse.length = n := by simp; omega
  by_cases h : k < n
  · rw [List.getElem?_append_left (by omega), List.getElem?_reverse (by simp; omega), List.length_take, Nat.min_eq_left hn, List.getElem?_take]
    simp only [if_pos (show n - 1 - k < n by omega)]
    rw [← List.getD_eq_getElem?_getD]
    split
    · rfl
    · rw [show n - 1 - k = k by omega]
  · rw [List.getElem?_append_right (by omega), hl, List.getElem?_drop, show n + (k - n) = k by omega, ← List.getD_eq_getElem?_getD, if_neg (by omega)]
set_option maxHeartbeats 4000000 in
set_option maxRecDepth 100000 in
theorem reverse_calls {w : World} {g n cap : Nat} {l : List Value} (h : RowAt w g 50 (fun v => v) l) (hn : n ≤ l.length) (hn2 : n ≤ 1000000) (_hc : n ≤ cap) (hs : ∀ k, k < n → ∃ a m c, l.getD k undef = .slice a m c) :
    Calls Tryz.prog 56 #[.slice (some ⟨g, 0, none⟩) n cap] w fun e w' => e = .returned (.tuple #[]) ∧ RowAt w' g 50 (fun v => v) ((l.take n).reverse ++ l.drop n) ∧ w.grownBy w' (some g) := by
  have HR := hidden (fun i => rvL_more l n i hn)
  have HD := hidden (fun i => rvL_done l n i hn)
  have HL := hidden (fun i => rvL_len l n i)
  have HN := hidden hn
  have HA := hidden (fun i k hk => rvL_at l n i (k := k) hk)
  have H0 := hidden (show RowAt w g 50 (fun v => v) (rvL l n 0) by rw [rvL_zero]; exact h)
  have HS := hidden hs
  clear h hn hs
  go_enter Tryz.func56, Tryz.ntmps56
  go_wp2
  go_loopw [2, 3] (fun iv jv wr => ∃ i : Nat, (i ≤ n ∧ (0 < n → i < n)) ∧ iv = .int .i64 i ∧ jv = .int .i64 ((n : Int) - 1 - i) ∧ RowAt wr g 50 (fun v => v) (rvL l n i) ∧ w.grownBy wr (some g)) (fun i _ _ => n - (Go.RowKit.intOf i).toNat)
  case atStart => exact ⟨0, ⟨by omega, fun h => h⟩, rfl, by simp, H0.out, World.grownBy.refl _ _⟩
  case round =>
    obtain ⟨i, hi, rfl, rfl, hrow, hg⟩ := hrel
    have HRO := hidden hrow
    have HG := hidden hg
    clear hrow hg
    by_cases hlt : i < n - 1 - i
    · have q1 : decide ((i : Int) < (n : Int) - 1 - i) = true := decide_eq_true (by omega)
      obtain ⟨j, hj⟩ : ∃ j : Nat, j = n - 1 - i := ⟨_, rfl⟩
      have hjz : (n : Int) - 1 - i = (j : Int) := by omega
      have hij : i < j := by omega
      have hjn : j < n := by omega
      rw [hjz] at q1 ⊢
      have c1 := HRO.out.cell (i := i) (by rw [HL.out]; have := HN.out; omega) undef
      have c2 := HRO.out.cell (i := j) (by rw [HL.out]; have := HN.out; omega) undef
      rw [HA.out i i (by have := HN.out; omega), if_neg (by omega)] at c1
      rw [HA.out i j (by have := HN.out; omega), if_neg (by omega)] at c2
      have f1 := HRO.out.frozen i
      have f2 := HRO.out.frozen j
      have HM := hidden (HR.out i hlt)
      rw [← hj] at HM
      have HSW := hidden ((HRO.out.set i (l.getD j undef)).set j (l.getD i undef))
      have HSW2 := hidden ((HRO.out.set j (l.getD i undef)).set i (l.getD j undef))
      have hJ := hidden hj
      have hin : i < n := by omega
      obtain ⟨x, hx⟩ : ∃ x, x = l.getD i undef := ⟨_, rfl⟩
      obtain ⟨y, hy⟩ : ∃ y, y = l.getD j undef := ⟨_, rfl⟩
      rw [← hx] at c1 HM HSW HSW2
      rw [← hy] at c2 HM HSW HSW2
      obtain ⟨xa, xm, xc, hxs⟩ := HS.out i hin
      obtain ⟨ya, ym, yc, hys⟩ := HS.out j hjn
      rw [← hx] at hxs
      rw [← hy] at hys
      subst hxs hys
      clear hj hjz hx hy
      go_wp2_with fail
      go_region_law (fail)
      all_goals
        have HF := hidden (show RowAt ((wr.setCell ⟨g, i, none⟩ (.slice ya ym yc)).setCell ⟨g, j, none⟩ (.slice xa xm xc)).drew g 50 (fun v => v) (rvL l n (i + 1)) from by rw [← HM.out]; exact HSW.out)
        have HGF := hidden (show w.grownBy ((wr.setCell ⟨g, i, none⟩ (.slice ya ym yc)).setCell ⟨g, j, none⟩ (.slice xa xm xc)).drew (some g) from ⟨HG.out.os, HG.out.tape, HG.out.output, by have := HG.out.size; simpa using this, fun k hk hne => ((heap_setCell_other _ _ _ _ (fun e => hne (by rw [e]))).trans (heap_setCell_other _ _ _ _ (fun e => hne (by rw [e])))).trans (HG.out.block k hk hne)⟩)
        generalize ((wr.setCell ⟨g, i, none⟩ (.slice ya ym yc)).setCell ⟨g, j, none⟩ (.slice xa xm xc)).drew = wf at *
        clear c1 c2 f1 f2 HSW HSW2
        go_wp2
        go_roundw
      all_goals first
        | exact ⟨i + 1, ⟨by omega, fun _ => by omega⟩, by go_num, by have := hJ.out; go_num, HF.out, HGF.out⟩
        | (simp [Go.RowKit.intOf]; omega)
    · have q1 : decide ((i : Int) < (n : Int) - 1 - i) = false := decide_eq_false (by omega)
      have HF := hidden (HD.out i (by omega))
      go_wp2
      (try rw [Exit.noGoto_normal])
      exact bodyPost_end (results_none rfl _ _ _) rfl ⟨rfl, by rw [← HF.out]; exact HRO.out, HG.out⟩
end Go.Proofs.YtnjjbaodfjmiaaaGreat

/- Contracts of slices.Grow and slices.Concat at bytes; the text of a word. -/
namespace Go.Proofs.YtnjjbaodfjmiaaaGreat
open Go.RowKit Go.Lib Go.Joins

theorem infoY : (Tryz.prog.info? 5).map (fun i => (i.zero, i.size, i.bytes)) = some (some (.int .u8 0), 1, 1) := by kernel_rfl
theorem infoYY : (Tryz.prog.info? 50).map (fun i => (i.zero, i.size, i.bytes)) = some (some (.slice none 0 0), 1, 24) := by kernel_rfl
/-- bytes are handed out, in new memory -/
def RetY (w : World) (l : List Nat) (e : Ending) (w' : World) : Prop := ∃ v, e = .returned v ∧ w'.ownsRow w.heap.size 5 1 v l.length (l.map bV8) ∧ Below w.heap.size w w'
set_option maxHeartbeats 1000000 in
theorem growY_zero (w : World) : Calls Tryz.prog 76 #[.slice none 0 0, .int .i64 0] w fun e w' => e = .returned (.slice none 0 0) ∧ w' = w := by
  go_enter Tryz.func76, Tryz.ntmps76
  go_wp2
  go_ret
  exact ⟨rfl, rfl⟩
set_option maxHeartbeats 1000000 in
theorem growY_some (w : World) (n : Nat) (hn0 : 0 < n) (hn : n ≤ 1000000) :
    Calls Tryz.prog 76 #[.slice none 0 0, .int .i64 n] w (RetY w []) := by
  obtain ⟨i0, hi, hz0, hz1, hz2⟩ := info_parts infoY
  have hold : (Builtin.firstCells i0.size 0 (.slice none 0 0)).run Tryz.prog w.drew = .ok ([] : List Value).toArray w.drew := run_firstCells_none w.drew i0.size 0 0 0
  have hrz : ∀ ty, (Builtin.append_ #[50, 3] ty #[.slice none 0 0, .int .i64 n]).run Tryz.prog w =
      .ok (.slice (some ⟨w.heap.size, 0, none⟩) n (grownCap w n 0 5)) (w.drew.alloc (.cells (([] : List Value).toArray ++ Builtin.zeroCells (Value.int .u8 0).cells n ++ Builtin.zeroCells (Value.int .u8 0).cells (grownCap w n 0 5 - n)) 5)) := fun ty => by
    have h := Lib.run_append_grow_zeros w 50 3 ty 5 i0 (.int .u8 0) .i64 .i64 Tryz.underlying50 Tryz.underlying3 hi hz0 none 0 0 [] hold n (by omega) (by omega) (by omega) (by omega)
      (by rw [hz2]; omega) (by rw [hz2]; exact growslice_fits (by omega) (by omega))
    simpa using h
  have hGn : n ≤ grownCap w n 0 5 := grownCap_ge w _ _ _
  have hGm : grownCap w n 0 5 ≤ maxLen := grownCap_le_maxLen w n 0 5 (by unfold maxLen; omega)
  generalize grownCap w n 0 5 = G at *
  have e5 : (Value.int .u8 0).cells.size = 1 := rfl
  have R : RetY w [] (.returned (.slice (some ⟨w.heap.size, 0, none⟩) 0 G)) (w.drew.alloc (.cells (([] : List Value).toArray ++ Builtin.zeroCells (Value.int .u8 0).cells n ++ Builtin.zeroCells (Value.int .u8 0).cells (G - n)) 5)) := by
    refine ⟨_, rfl, World.ownsRow_made (base := w.heap.size) (size := 1) w.drew _ G (Nat.le_refl _) hGm ?_, ?_⟩
    · simp [size_zeroCells, e5]
      omega
    · exact ((Below.refl w.heap.size w).drew).alloc (Nat.le_refl _) _
  generalize ([] : List Value).toArray ++ Builtin.zeroCells (Value.int .u8 0).cells n ++ Builtin.zeroCells (Value.int .u8 0).cells (G - n) = Rw at *
  have HR := hidden R
  have hG63 : G ≤ 9223372036854775807 := hGm
  clear R hold hGm hi hz0 hz1 hz2
  go_enter Tryz.func76, Tryz.ntmps76
  go_wp2_with (at_builtin; refine Lib.wpList_append_run _ rfl _ _ _ _ rfl _ _ rfl rfl _ _ (hrz _) ?_)
  all_goals (go_ret; exact HR.out)
theorem growY (w : World) (n : Nat) (hn : n ≤ 1000000) : Calls Tryz.prog 76 #[.slice none 0 0, .int .i64 n] w (RetY w []) := by
  cases n with
  | zero =>
    refine (growY_zero w).mono ?_
    rintro e w' ⟨rfl, rfl⟩
    exact ⟨_, rfl, World.ownsRow_nil _ _ _ _, Below.refl _ _⟩
  | succ n => exact growY_some w (n + 1) (by omega) hn
/-- a list of lists of bytes -/
def SlL (w : World) (g n cap : Nat) (LL : List (List Nat)) : Prop := n = LL.length ∧ n ≤ cap ∧ cap ≤ maxLen ∧ g < w.heap.size ∧ ∀ i, i < LL.length → ∃ y, w.cell? ⟨g, i, none⟩ = some y ∧ BytesAt w y (LL.getD i [])
theorem flat_take (LL : List (List Nat)) (j : Nat) (h : j < LL.length) : (LL.take (j + 1)).flatten = (LL.take j).flatten ++ LL.getD j [] := by
  rw [List.take_succ_eq_append_getElem h, List.flatten_append, List.getD_eq_getElem?_getD, List.getElem?_eq_getElem h]
  simp
theorem flat_le (LL : List (List Nat)) (j : Nat) : (LL.take j).flatten.length ≤ LL.flatten.length := by
  have : LL.flatten = (LL.take j).flatten ++ (LL.drop j).flatten := by rw [← List.flatten_append, List.take_append_drop]
  rw [this, List.length_append]
  omega
theorem BytesAt.src {w : World} {a : Option Addr} {n c : Nat} {p : List Nat} (h : BytesAt w (.slice a n c) p) : Src w (.slice a n c) n (p.map bV8) := by
  obtain ⟨a', c', e, h1, h2, h3, h4⟩ := h
  simp only [Value.slice.injEq] at e
  obtain ⟨rfl, rfl, rfl⟩ := e
  cases a with
  | none =>
    have hc := h3 rfl
    subst hc
    have hp : p.length = 0 := by omega
    left
    exact ⟨by rw [hp], hp, by rw [List.eq_nil_of_length_eq_zero hp]; rfl⟩
  | some ad =>
    refine .inr ⟨ad, _, rfl, fun j u hj => ?_⟩
    have hjl : j < p.length := by
      have := (List.getElem?_eq_some_iff.1 hj).1
      simpa using this
    obtain ⟨b, off, e, _, hc⟩ := h4 (by omega)
    simp only [Option.some.injEq] at e
    subst e
    rw [Addr.add_lit, hc j hjl]
    rw [List.getElem?_map, List.getElem?_eq_getElem hjl] at hj
    rw [List.getD_eq_getElem?_getD, List.getElem?_eq_getElem hjl]
    exact hj
set_option maxHeartbeats 4000000 in
set_option maxRecDepth 100000 in
theorem concatY_calls {w : World} {g n cap : Nat} {LL : List (List Nat)} (h : SlL w g n cap LL) (hsz : LL.flatten.length ≤ 1000000) :
    Calls Tryz.prog 57 #[.slice (some ⟨g, 0, none⟩) n cap] w (RetY w LL.flatten) := by
  obtain ⟨hm, h1, h2, hg, hS⟩ := h
  have HS := hidden hS
  have HM := hidden hm
  have HG0 := hidden hg
  have HI := hidden infoY
  unfold maxLen at h2
  clear hS hm
  go_enter Tryz.func57, Tryz.ntmps57
  go_wp2
  go_loopw [3, 11] (fun s i wr => ∃ j : Nat, j ≤ n ∧ i = .int .i64 j ∧ s = .int .i64 ((LL.take j).flatten.length : Nat) ∧ w = wr) (fun _ i _ => n - (Go.RowKit.intOf i).toNat)
  case atStart => exact ⟨0, by omega, rfl, rfl, rfl⟩
  case round =>
    obtain ⟨j, hj, rfl, rfl, rfl⟩ := hrel
    by_cases hlt : j < n
    · obtain ⟨y, hy, hyx⟩ := HS.out j (by rw [← HM.out]; exact hlt)
      have hmL : j < LL.length := by rw [← HM.out]; exact hlt
      have hle := flat_le LL (j + 1)
      have HN := hidden (flat_take LL j hmL)
      rw [HN.out, List.length_append] at hle
      obtain ⟨ya, yc, rfl⟩ := hyx.form
      have HL : Hid ((LL.take (j + 1)).flatten.length = (LL.take j).flatten.length + (LL.getD j []).length) := hidden (by rw [HN.out, List.length_append])
      clear hyx hmL
      generalize (LL.take j).flatten.length = n1 at *
      generalize (LL.getD j []).length = n2 at *
      have hd : decide ((n1 : Int) + n2 < 0) = false := decide_eq_false (by omega)
      go_wp2
      go_roundw
      case rel => exact ⟨j + 1, by omega, by go_num, by rw [HL.out]; go_num, trivial⟩
      case measure => simp [Go.RowKit.intOf]; omega
    · obtain rfl : j = n := by omega
      have HG := hidden (fun w => growY w LL.flatten.length hsz)
      rw [List.take_of_length_le (by rw [HM.out]; exact Nat.le_refl _)] at *
      obtain ⟨N, hN⟩ : ∃ N, N = LL.flatten.length := ⟨_, rfl⟩
      rw [← hN] at HG ⊢
      clear hN
      go_wp2_with fail
      refine (HG.out _).mono ?_
      rintro e w1 ⟨u, rfl, hr, hb⟩
      have HJ0 := hidden (show w1.ownsRow w.heap.size 5 1 u 0 [] from hr)
      have HB0 := hidden hb
      clear hr hb
      go_wp2
      go_loopw [6, 27] (fun o i wr => ∃ i' : Nat, i' ≤ j ∧ i = .int .i64 i' ∧ wr.ownsRow w.heap.size 5 1 o (LL.take i').flatten.length ((LL.take i').flatten.map bV8) ∧ Below w.heap.size w wr) (fun _ i _ => j - (Go.RowKit.intOf i).toNat)
      case atStart => exact ⟨0, by omega, rfl, HJ0.out, HB0.out⟩
      case round =>
        obtain ⟨i, hi, rfl, hrow, hbe⟩ := hrel
        have HRW := hidden hrow
        have HBE := hidden hbe
        by_cases hlt : i < j
        · obtain ⟨y, hy, hyx⟩ := HS.out i (by rw [← HM.out]; exact hlt)
          have hy' := (hbe.cell (p := ⟨g, i, none⟩) HG0.out).trans hy
          have hyw := hyx.mono (KeepW.of_below hbe)
          obtain ⟨ya, yc, rfl⟩ := hyw.form
          have HSR := hidden hyw.src
          have hle := flat_le LL (i + 1)
          have HN := hidden (flat_take LL i (by rw [← HM.out]; exact hlt))
          rw [HN.out, List.length_append] at hle
          obtain ⟨va, vc, hv⟩ := (QRow.of hrow).form
          subst hv
          have HL : Hid ((LL.take (i + 1)).flatten.length = (LL.take i).flatten.length + (LL.getD i []).length) := hidden (by rw [HN.out, List.length_append])
          have HMP := hidden (show (LL.take (i + 1)).flatten.map bV8 = (LL.take i).flatten.map bV8 ++ (LL.getD i []).map bV8 by rw [HN.out, List.map_append])
          have HL2 := hidden (show ((LL.getD i []).map bV8).length = (LL.getD i []).length * 1 by simp)
          have H1 := hidden (show ∀ u ∈ (LL.getD i []).map bV8, u.oneCell' = true from fun u hu => by obtain ⟨b, _, rfl⟩ := List.mem_map.1 hu; rfl)
          obtain ⟨n1, hn1⟩ : ∃ n1, n1 = (LL.take i).flatten.length := ⟨_, rfl⟩
          obtain ⟨n2, hn2⟩ : ∃ n2, n2 = (LL.getD i []).length := ⟨_, rfl⟩
          rw [← hn1] at HRW HL hle ⊢
          rw [← hn2] at HSR HL HL2 hle hy'
          have HLE := hidden (show n1 + n2 ≤ 1000000 by omega)
          clear hrow hbe hy hyx hyw hn1 hn2
          go_wp2_with (at_builtin; (first | refine wpList_app (v := .slice va n1 vc) rfl _ _ rfl HI.out Tryz.underlying50 rfl (by decide) (by decide) rfl HRW.out rfl HSR.out HL2.out H1.out HLE.out HBE.out.size ?_ | refine wp_app (v := .slice va n1 vc) _ _ rfl HI.out Tryz.underlying50 rfl (by decide) (by decide) rfl HRW.out rfl HSR.out HL2.out H1.out HLE.out HBE.out.size ?_); intro v13 w13 hA; have HA13 := hidden hA; clear hA)
          go_roundw
          case rel => exact ⟨i + 1, by omega, by go_num, by rw [HL.out, HMP.out]; exact HA13.out.own, HBE.out.grown HA13.out.grown HBE.out.size fun k e => (World.ownsRow.lt HRW.out k e).1⟩
          case measure => simp [Go.RowKit.intOf]; omega
        · obtain rfl : i = j := by omega
          rw [List.take_of_length_le (by rw [HM.out]; exact Nat.le_refl _)] at HRW
          clear hrow hbe
          go_wp2
          go_ret
          exact ⟨_, rfl, HRW.out, HBE.out⟩
end Go.Proofs.YtnjjbaodfjmiaaaGreat

/- Contract of a word's text. -/
namespace Go.Proofs.YtnjjbaodfjmiaaaGreat
open Go.RowKit Go.Lib Go.Joins

def strOf (u : List Nat) : Value := .string ⟨(u.map UInt8.ofNat).toArray⟩
theorem bytes_text {w : World} {base : Nat} {v : Value} {u : List Nat} (h : w.ownsRow base 5 1 v u.length (u.map bV8)) (hu : ∀ b ∈ u, b < 256) : (convert 50 9 v).run Tryz.prog w = .ok (strOf u) w := by
  rcases h.2 with ⟨rfl, h0⟩ | ⟨g, cap, cur, rfl, _⟩
  · rw [run_convert_bytes_nil w 50 5 Tryz.underlying50 Tryz.underlying5 _ _ 9 Tryz.underlying9]
    rw [List.eq_nil_of_length_eq_zero h0]
    rfl
  · have := run_convert_bytes_back (P := Tryz.prog) w 50 9 5 ⟨g, 0, none⟩ cap (u.map UInt8.ofNat) Tryz.underlying50 Tryz.underlying5 Tryz.underlying9 fun j hj => by
      have hj' : j < u.length := by simpa using hj
      refine World.ownsRow.cells (g := g) h rfl j _ ?_
      rw [List.getElem?_map, List.getElem?_eq_getElem hj']
      simp only [Option.map_some, List.getElem_map, bV8]
      have hb := hu _ (List.getElem_mem hj')
      rw [UInt8.toNat_ofNat', Nat.mod_eq_of_lt (by omega)]
    rw [List.length_map] at this
    exact this
/-- the words' bytes are handed over one by one -/
structure TxS (w : World) (p : List Nat) (ps : List (List Nat)) (k : Nat) (pv lv : Value) (wr : World) : Prop where
  hk : k ≤ ps.length
  c : Chain w lv (ps.drop k)
  y : ∃ ys, wr.ownsRow w.heap.size 50 1 pv (k + 1) ys ∧ ∀ i, i < k + 1 → BytesAt w (ys.getD i undef) ((p :: ps).getD i [])
  b : Below w.heap.size w wr
theorem TxS.slices {w wr : World} {p : List Nat} {ps : List (List Nat)} {k : Nat} {pv lv : Value} (h : TxS w p ps k pv lv wr) (hk : k = ps.length) :
    ∃ g cap l, pv = .slice (some ⟨g, 0, none⟩) (k + 1) cap ∧ w.heap.size ≤ g ∧ k + 1 ≤ cap ∧ k + 1 ≤ l.length ∧ cap ≤ maxLen ∧ RowAt wr g 50 (fun v => v) l ∧ ∀ i, i < k + 1 → BytesAt w (l.getD i undef) ((p :: ps).getD i []) := by
  obtain ⟨ys, hr, hy⟩ := h.y
  rcases hr.2 with ⟨_, h0⟩ | ⟨g, cap, cur, rfl, hb, hg, h1, h2, h3, h4⟩
  · omega
  · refine ⟨g, cap, cur.toList, rfl, hb, h1, by simp; omega, h2, by unfold RowAt; rw [hg]; simp, fun i hi => ?_⟩
    have := hy i hi
    rw [← h4, Nat.mul_one, List.getD_eq_getElem?_getD, List.getElem?_take, if_pos hi, ← List.getD_eq_getElem?_getD] at this
    exact this
theorem TxS.rev {w w2 : World} {p : List Nat} {ps : List (List Nat)} {g cap n : Nat} {l : List Value} (hn : n = ps.length + 1) (hc : n ≤ cap) (hm : cap ≤ maxLen) (hl : n ≤ l.length) (hb : Below w.heap.size w w2) (hr : RowAt w2 g 50 (fun v => v) ((l.take n).reverse ++ l.drop n)) (hy : ∀ i, i < n → BytesAt w (l.getD i undef) ((p :: ps).getD i [])) :
    SlL w2 g n cap (p :: ps).reverse := by
  refine ⟨by simp [hn], hc, hm, hr.lt, fun i hi => ?_⟩
  have hi' : i < n := by simpa [hn] using hi
  have hll : (l.take n).length = n := by rw [List.length_take]; omega
  have hc1 := hr.cell (i := i) (by rw [List.length_append, List.length_reverse, hll]; omega) undef
  refine ⟨_, hc1, ?_⟩
  have e1 : ((l.take n).reverse ++ l.drop n).getD i undef = l.getD (n - 1 - i) undef := by
    rw [List.getD_eq_getElem?_getD, List.getElem?_append_left (by rw [List.length_reverse, hll]; exact hi'), List.getElem?_reverse (by rw [hll]; exact hi'), hll, List.getElem?_take, if_pos (by omega), ← List.getD_eq_getElem?_getD]
  have e2 : (p :: ps).reverse.getD i [] = (p :: ps).getD (n - 1 - i) [] := by
    rw [List.getD_eq_getElem?_getD, List.getElem?_reverse (by simp; omega), ← List.getD_eq_getElem?_getD]
    congr 1
    simp [hn]
  rw [e1, e2]
  exact (hy _ (by omega)).mono (KeepW.of_below hb)
set_option maxHeartbeats 4000000 in
set_option maxRecDepth 100000 in
theorem text_calls {w : World} {bv ov : Value} {u : List Nat} (h : WordAt w bv ov u) (hu : ∀ b ∈ u, b < 256) (hl : u.length ≤ 100000) :
    Calls Tryz.prog 34 #[.agg #[bv, ov]] w fun e w' => e = .returned (strOf u) ∧ Below w.heap.size w w' := by
  obtain ⟨p, ps, hp, _, hch, hue, hpsl⟩ := h
  obtain ⟨x, hx⟩ := hch.form
  obtain ⟨a, c, ho⟩ := hp.form
  subst hx ho
  obtain ⟨pl, hpl⟩ : ∃ n, n = p.length := ⟨_, rfl⟩
  rw [← hpl] at hp ⊢
  have hps : ∀ k, k ≤ ps.length → k ≤ 100000 := fun k hk => by
    have h1 : ps.reverse.flatten.length = ps.flatten.length := by
      rw [List.length_flatten, List.length_flatten, List.map_reverse, List.sum_reverse]
    rw [hue, List.length_append, h1] at hl
    omega
  have HP := hidden hp
  have HU := hidden hue
  have HUB := hidden hu
  have HUL := hidden hl
  have HT0 := hidden (show TxS w p ps 0 (.slice (some ⟨w.heap.size + 1, 0, none⟩) 1 1) (.pointer x) ((w.alloc (.cells #[.pointer x, .slice a pl c] 52)).alloc (.cells #[.slice a pl c] 50)) from by
    refine ⟨Nat.zero_le _, hch, ⟨[.slice a pl c], ?_, fun i hi => ?_⟩, ((Below.refl w.heap.size w).alloc (Nat.le_refl _) _).alloc (by simp) _⟩
    · refine ⟨rfl, .inr ⟨w.heap.size + 1, 1, #[.slice a pl c], rfl, by omega, ?_, Nat.le_refl _, by decide, rfl, rfl⟩⟩
      have := heap_alloc_new (w.alloc (.cells #[.pointer x, .slice a pl c] 52)) (.cells #[.slice a pl c] 50)
      simpa using this
    · obtain rfl : i = 0 := by omega
      exact hp)
  clear hp hch hue hu hl hpl hpsl
  go_enter Tryz.func34, Tryz.ntmps34
  go_wp2
  go_loopg [3, 4] ps.length (fun gk pv lv wr => ∃ k, gk + k = ps.length ∧ TxS w p ps k pv lv wr)
  case atStart => exact ⟨0, by omega, HT0.out⟩
  case round =>
    obtain ⟨k, hgk, hT⟩ := hrel
    obtain ⟨ys, hrow, hys⟩ := hT.y
    obtain ⟨va, vc, hv⟩ := (QRow.of hrow).form
    subst hv
    have HT := hidden hT
    have hch := hT.c
    have hk := hT.hk
    by_cases hkl : k < ps.length
    · rw [List.drop_eq_getElem_cons hkl, show ps[k] = ps.getD k [] from by rw [List.getD_eq_getElem?_getD, List.getElem?_eq_getElem hkl]; rfl] at hch
      obtain ⟨b, bv', ov', rfl, hb, hby, hch'⟩ := hch
      obtain ⟨xx, rfl⟩ := hch'.form
      obtain ⟨oa, oc, rfl⟩ := hby.form
      have hbl : b < w.heap.size := (Array.getElem?_eq_some_iff.1 hb).1
      have hw := (hT.b.block b hbl).trans hb
      have c0 := cell_of_row wr b 0 _ _ _ hw
      have c1 := cell_of_row wr b 1 _ _ _ hw
      obtain ⟨on, hon⟩ : ∃ n, n = (ps.getD k []).length := ⟨_, rfl⟩
      rw [← hon] at hby hb hw c0 c1
      have hal : Below wr.heap.size wr (wr.alloc (.cells #[.slice oa on oc] 50)) := (Below.refl _ _).alloc (Nat.le_refl _) _
      have HRW := hidden (World.ownsRow.kept (row := none) hrow ⟨hal.os, hal.tape, hal.output, hal.size, fun k hk _ => hal.block k hk⟩ (by cases (Value.slice va (k + 1) vc).ownBlock <;> simp))
      have HBE := hidden (hT.b.alloc hT.b.size (.cells #[.slice oa on oc] 50))
      have hw2 := (heap_alloc_old wr (.cells #[.slice oa on oc] 50) (Nat.lt_of_lt_of_le hbl hT.b.size)).trans hw
      have HBY := hidden hby
      have HCH := hidden hch'
      have HYS := hidden hys
      have HYL := hidden hrow.1
      have HKL := hidden hkl
      have HON := hidden hon
      have HI := hidden infoYY
      have HSZ := hidden (show w.heap.size ≤ (wr.alloc (.cells #[.slice oa on oc] 50)).heap.size from HBE.out.size)
      have HLE := hidden (show k + 1 + 1 ≤ 1000000 by have := hps (k + 1) hkl; omega)
      have HBL := hidden (hT.b.size)
      have HBB := hidden hbl
      have HW0 := hidden hb
      clear hrow hys hT hb hby hch' hw hal hw2 hkl hon hps
      go_wp2_with (at_builtin; (first | refine wpList_app (v := .slice va (k + 1) vc) rfl _ _ rfl HI.out Tryz.underlying85 rfl (by decide) (by decide) rfl HRW.out rfl (Src.one wr (.slice oa on oc) 50 _ rfl) (by simp) (by simp [Value.oneCell']) HLE.out HSZ.out ?_ | refine wp_app (v := .slice va (k + 1) vc) _ _ rfl HI.out Tryz.underlying85 rfl (by decide) (by decide) rfl HRW.out rfl (Src.one wr (.slice oa on oc) 50 _ rfl) (by simp) (by simp [Value.oneCell']) HLE.out HSZ.out ?_); intro v13 w13 hA; have HA13 := hidden hA; have HB13 := hidden (HBE.out.grown hA.grown HBE.out.size fun k e => (World.ownsRow.lt HRW.out k e).1); have d0 := cell_of_row w13 b 0 _ _ _ ((HB13.out.block b HBB.out).trans HW0.out); clear hA)
      go_roundg (gk - 1)
      case measure => have := HKL.out; omega
      case rel =>
        refine ⟨k + 1, by have := HKL.out; omega, HKL.out, HCH.out, ⟨ys ++ [.slice oa on oc], HA13.out.own, fun i hi => ?_⟩, HB13.out⟩
        have hyl := HYL.out
        by_cases hi2 : i < k + 1
        · rw [List.getD_eq_getElem?_getD, List.getElem?_append_left (by omega), ← List.getD_eq_getElem?_getD]
          exact HYS.out i hi2
        · obtain rfl : i = k + 1 := by omega
          rw [List.getD_eq_getElem?_getD, List.getElem?_append_right (by omega), hyl, Nat.mul_one, Nat.sub_self]
          exact HBY.out
    · obtain rfl : k = ps.length := by omega
      rw [List.drop_of_length_le (Nat.le_refl _)] at hch
      have hch : _ = Value.pointer none := hch
      subst hch
      obtain ⟨g, cap, l, e1, hg, hcap, hll, hmax, hrw, hyl⟩ := hT.slices rfl
      simp only [Value.slice.injEq, true_and] at e1
      obtain ⟨rfl, rfl⟩ := e1
      obtain ⟨nn, hnn⟩ : ∃ m, m = ps.length + 1 := ⟨_, rfl⟩
      rw [← hnn] at hcap hll hyl ⊢
      have hn6 : nn ≤ 1000000 := by have := hps ps.length (Nat.le_refl _); omega
      have HREV := hidden (reverse_calls (cap := vc) hrw hll hn6 hcap fun k hk => by
        obtain ⟨a, c, e⟩ := (hyl k hk).form
        exact ⟨a, _, c, e⟩)
      have HTR := hidden (fun W hb hr => TxS.rev (w := w) (w2 := W) (p := p) (ps := ps) (g := g) hnn hcap hmax hll hb hr hyl)
      have HBE := hidden hT.b
      have HG := hidden hg
      have hfl : ((p :: ps).reverse).flatten = u := by rw [HU.out]; simp
      have HFL := hidden hfl
      clear hrow hys hT HT hrw hyl hch hll hnn hg hfl
      go_wp2_with fail
      refine HREV.out.mono ?_
      rintro e w2 ⟨rfl, hr2, hg2⟩
      have HB2 := hidden (HBE.out.grown hg2 HBE.out.size (fun k e => by simp only [Option.some.injEq] at e; have := HG.out; omega))
      have HC2 := hidden (concatY_calls (HTR.out w2 HB2.out hr2) (by rw [HFL.out]; have := HUL.out; omega))
      rw [HFL.out] at HC2
      clear hr2 hg2
      go_wp2_with fail
      refine HC2.out.mono ?_
      rintro e w3 ⟨v3, rfl, hr3, hb3⟩
      have HCV := hidden (bytes_text hr3 HUB.out)
      have HB3 := hidden (below_after HB2.out hb3)
      have hcv := bytes_text hr3 HUB.out
      clear hr3 hb3
      go_wp2
      go_ret
      exact ⟨rfl, HB3.out⟩
end Go.Proofs.YtnjjbaodfjmiaaaGreat
