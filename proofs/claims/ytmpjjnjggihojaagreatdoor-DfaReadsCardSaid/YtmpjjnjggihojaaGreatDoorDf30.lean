/- DfBldS, DfRBuild, TypedH, DfPBuild, put together. -/
import Derived.Test.YtmpjjnjggihojaaGreatDoorDf29
import Derived.Test.YtmpjjnjggihojaaGreatDoorDf23
import Derived.Test.YtmpjjnjggihojaaGreatDoorDf26
import Derived.Test.YtmpjjnjggihojaaGreatDoorDf19
import Derived.Test.YtmpjjnjggihojaaGreatDoorDf03
import Derived.StillTailTactics
import Derived.Deep.RegionLaw
import Derived.Deep.CutRange
import Derived.Test.YtmpjjnjggihojaaGreatDoorDf16
import Derived.Test.YtmpjjnjggihojaaGreatDoorDf20
import Derived.WalkMore
import Derived.Deep.LoopGhost
/- All that build has at hand, and what each call makes of it. -/
namespace Go.Proofs.YtmpjjnjggihojaaGreatDoor
open Go.RowKit Go.Lib Go.Joins Go.Maps

/-- the blocks that are no rows -/
def XP (RB DB FB NB MB SB k : Nat) : Prop := k = RB ∨ k = DB ∨ k = FB ∨ k = NB ∨ k = MB ∨ k = SB
/-- six blocks, all different -/
def Dist6 (RB DB FB NB MB SB : Nat) : Prop := RB ≠ DB ∧ RB ≠ FB ∧ RB ≠ NB ∧ RB ≠ MB ∧ RB ≠ SB ∧ DB ≠ FB ∧ DB ≠ NB ∧ DB ≠ MB ∧ DB ≠ SB ∧ FB ≠ NB ∧ FB ≠ MB ∧ FB ≠ SB ∧ NB ≠ MB ∧ NB ≠ SB ∧ MB ≠ SB
/-- all that build has at hand -/
structure Bld (e0 : Nat) (w0 : World) (N : NetM) (RB DB FB NB MB SB base : Nat) (w1 : World) (rs0 : List R5) (wr : World) (vn vl fv rv : Value) (us ws : List Value) (Nn : List (List Int)) (L : List Int) (F : List (List Int)) (R : List Int) (D : DataW Unit) (T : Nat → Int) : Prop where
  core : Core (XP RB DB FB NB MB SB) base w1 rs0 wr vn vl fv rv us ws Nn L F R
  d : DfaAt wr DB (clsN N) (widN N) vn vl
  res : DfaAt wr RB zG 0 (.slice none 0 0) (.slice none 0 0)
  fb : Boxed wr FB 25 fv
  nb : Boxed wr NB 81 (.map (some MB))
  mp : wr.ownsMap (H := Unit) Tryz.prog 9 (plainElem Tryz.prog 3) MB F.length D
  num : MapN D F
  seen : SeenAt wr SB N.sets.length T
  below : Below e0 w0 wr
  lo : e0 ≤ base ∧ base ≤ wr.heap.size ∧ e0 ≤ RB ∧ e0 ≤ DB ∧ e0 ≤ FB ∧ e0 ≤ NB ∧ e0 ≤ MB ∧ e0 ≤ SB
  ne : Dist6 RB DB FB NB MB SB
section
variable {e0 : Nat} {w0 : World} {N : NetM} {RB DB FB NB MB SB base : Nat} {w1 : World} {rs0 : List R5} {wr w' : World} {vn vl fv rv : Value} {us ws : List Value} {Nn : List (List Int)} {L : List Int} {F : List (List Int)} {R : List Int} {D : DataW Unit} {T : Nat → Int}
/-- a call that makes memory alone -/
theorem Bld.kept (h : Bld e0 w0 N RB DB FB NB MB SB base w1 rs0 wr vn vl fv rv us ws Nn L F R D T) (hb : Below wr.heap.size wr w') : Bld e0 w0 N RB DB FB NB MB SB base w1 rs0 w' vn vl fv rv us ws Nn L F R D T :=
  ⟨h.core.kept (But.of hb _), h.d.below hb, h.res.below hb, (hb.block _ h.fb.lt).trans h.fb, (hb.block _ h.nb.lt).trans h.nb, h.mp.kept (row := none) ⟨hb.os, hb.tape, hb.output, hb.size, fun k hk _ => hb.block k hk⟩ (by simp), h.num, TabAt.below h.seen hb, h.below.trans (hb.mono (Nat.le_trans h.lo.1 h.lo.2.1)), ⟨h.lo.1, Nat.le_trans h.lo.2.1 hb.size, h.lo.2.2⟩, h.ne⟩
/-- the rows are named anew -/
theorem Bld.anew (h : Bld e0 w0 N RB DB FB NB MB SB base w1 rs0 wr vn vl fv rv us ws Nn L F R D T) : Bld e0 w0 N RB DB FB NB MB SB base wr (rows4 vn vl fv rv us ws Nn L F R) wr vn vl fv rv us ws Nn L F R D T :=
  ⟨⟨h.core.own, h.core.elN, h.core.elF, StayR.refl _ _ _⟩, h.d, h.res, h.fb, h.nb, h.mp, h.num, h.seen, h.below, h.lo, h.ne⟩
theorem Bld.back {w2 : World} {rs2 : List R5} (h : Bld e0 w0 N RB DB FB NB MB SB base w2 rs2 wr vn vl fv rv us ws Nn L F R D T) (hs : StayR (XP RB DB FB NB MB SB) w1 rs0 w2 rs2) : Bld e0 w0 N RB DB FB NB MB SB base w1 rs0 wr vn vl fv rv us ws Nn L F R D T :=
  ⟨⟨h.core.own, h.core.elN, h.core.elF, hs.trans h.core.stay⟩, h.d, h.res, h.fb, h.nb, h.mp, h.num, h.seen, h.below, h.lo, h.ne⟩
/-- a call that turns what has been seen, and makes memory -/
theorem Bld.turn (h : Bld e0 w0 N RB DB FB NB MB SB base w1 rs0 wr vn vl fv rv us ws Nn L F R D T) (hb : But wr.heap.size (fun k => k = SB) wr w') {T' : Nat → Int} (hs : SeenAt w' SB N.sets.length T') : Bld e0 w0 N RB DB FB NB MB SB base w1 rs0 w' vn vl fv rv us ws Nn L F R D T' := by
  obtain ⟨n1, n2, n3, n4, n5, n6, n7, n8, n9, n10, n11, n12, n13, n14, n15⟩ := h.ne
  exact ⟨h.core.kept (hb.mono (Nat.le_refl _) fun k e _ => by subst e; exact .inr (.inr (.inr (.inr (.inr rfl))))), (hb.block DB h.d.lt n9).trans h.d, (hb.block RB h.res.lt n5).trans h.res, (hb.block FB h.fb.lt n12).trans h.fb, (hb.block NB h.nb.lt n14).trans h.nb,
    h.mp.kept (row := some SB) ⟨hb.os, hb.tape, hb.output, hb.size, fun k hk hne => hb.block k hk fun e => hne (by rw [e])⟩ (by simp only [ne_eq, Option.some.injEq]; exact n15), h.num, hs, h.below.trans (hb.under (Nat.le_trans h.lo.1 h.lo.2.1) fun k e => by subst e; exact h.lo.2.2.2.2.2.2.2), ⟨h.lo.1, Nat.le_trans h.lo.2.1 hb.size, h.lo.2.2⟩, h.ne⟩
/-- a number more in the row -/
theorem Bld.putR (h : Bld e0 w0 N RB DB FB NB MB SB base w1 rs0 wr vn vl fv rv us ws Nn L F R D T) {rv' : Value} {x : Int} (hA : Appd wr w' base 3 1 rv rv' (R.length + 1) (R.map (Value.int .i64) ++ [Value.int IntKind.i64 x])) : Bld e0 w0 N RB DB FB NB MB SB base w1 rs0 w' vn vl fv rv' us ws Nn L F (R ++ [x]) D T := by
  have hm : (⟨3, 1, rv, R.length, R.map (Value.int .i64)⟩ : R5) ∈ rows4 vn vl fv rv us ws Nn L F R := by simp [rows4]
  have ho := fun k hk => h.core.own.out _ hm k hk
  have hg := hA.grown
  have hb : But wr.heap.size (fun k => XP RB DB FB NB MB SB k ∨ rv.ownBlock = some k) wr w' := (But.refl _ _ _).grown hg (fun k e => .inl (.inr e)) (Nat.le_refl _)
  exact ⟨h.core.putR hb hA.own hA.at, (hg.block DB h.d.lt fun e => ho _ e.symm (.inr (.inl rfl))).trans h.d, (hg.block RB h.res.lt fun e => ho _ e.symm (.inl rfl)).trans h.res, (hg.block FB h.fb.lt fun e => ho _ e.symm (.inr (.inr (.inl rfl)))).trans h.fb, (hg.block NB h.nb.lt fun e => ho _ e.symm (.inr (.inr (.inr (.inl rfl))))).trans h.nb,
    h.mp.kept hg (fun e => ho _ e.symm (.inr (.inr (.inr (.inr (.inl rfl)))))), h.num, TabAt.at h.seen (hg.block SB h.seen.lt fun e => ho _ e.symm (.inr (.inr (.inr (.inr (.inr rfl)))))), h.below.grown hg (Nat.le_trans h.lo.1 h.lo.2.1) (fun k e => Nat.le_trans h.lo.1 (h.core.own.lt hm e).1), ⟨h.lo.1, Nat.le_trans h.lo.2.1 hg.size, h.lo.2.2⟩, h.ne⟩
/-- the row is put behind the machine's rows -/
theorem Bld.putN (h : Bld e0 w0 N RB DB FB NB MB SB base w1 rs0 wr vn vl fv rv us ws Nn L F R D T) {u vn' : Value} {t : List Int} (hu : ElR (FarN base wr (XP RB DB FB NB MB SB) (rows4 vn vl fv rv us ws Nn L F R)) wr u t) (hA : Appd wr w' base 23 1 vn vn' (Nn.length + 1) (us ++ [u])) :
    Bld e0 w0 N RB DB FB NB MB SB base w1 rs0 (w'.setCell ⟨DB, 257, none⟩ vn') vn' vl fv rv (us ++ [u]) ws (Nn ++ [t]) L F R D T := by
  obtain ⟨n1, n2, n3, n4, n5, n6, n7, n8, n9, n10, n11, n12, n13, n14, n15⟩ := h.ne
  have hm : (⟨23, 1, vn, Nn.length, us⟩ : R5) ∈ rows4 vn vl fv rv us ws Nn L F R := by simp [rows4]
  have ho := fun k hk => h.core.own.out _ hm k hk
  have hg := hA.grown
  have hb : But wr.heap.size (fun k => XP RB DB FB NB MB SB k ∨ vn.ownBlock = some k) wr (w'.setCell ⟨DB, 257, none⟩ vn') := ((But.refl _ _ _).grown hg (fun k e => .inl (.inr e)) (Nat.le_refl _)).store (.inl (.inl (.inr (.inl rfl)))) 257 _
  have hrow : (w'.setCell ⟨DB, 257, none⟩ vn').ownsRow base 23 1 vn' (Nn.length + 1) (us ++ [u]) := ownsRow_same hA.own fun k hk => heap_setCell_other _ _ _ _ fun e => by
    have e2 : k = DB := e
    subst e2
    rcases hA.at k hk with e | e
    · exact ho _ e (.inr (.inl rfl))
    · have := h.d.lt; omega
  have hdk := (hg.block DB h.d.lt fun e => ho _ e.symm (.inr (.inl rfl))).trans h.d
  exact ⟨h.core.putN hu hb hrow hA.at, DfaAt.putNext hdk vn', DfaAt.put ((hg.block RB h.res.lt fun e => ho _ e.symm (.inl rfl)).trans h.res) _ n1, (heap_setCell_other _ _ _ _ (Ne.symm n6)).trans ((hg.block FB h.fb.lt fun e => ho _ e.symm (.inr (.inr (.inl rfl)))).trans h.fb), (heap_setCell_other _ _ _ _ (Ne.symm n7)).trans ((hg.block NB h.nb.lt fun e => ho _ e.symm (.inr (.inr (.inr (.inl rfl))))).trans h.nb),
    (h.mp.kept hg (fun e => ho _ e.symm (.inr (.inr (.inr (.inr (.inl rfl))))))).setCell (Ne.symm n8) _, h.num, (TabAt.at h.seen (hg.block SB h.seen.lt fun e => ho _ e.symm (.inr (.inr (.inr (.inr (.inr rfl))))))).other _ (Ne.symm n9), (h.below.grown hg (Nat.le_trans h.lo.1 h.lo.2.1) (fun k e => Nat.le_trans h.lo.1 (h.core.own.lt hm e).1)).setCell (show e0 ≤ DB from h.lo.2.2.2.1) _, ⟨h.lo.1, by simpa using Nat.le_trans h.lo.2.1 hg.size, h.lo.2.2⟩, h.ne⟩
/-- a label is put behind the machine's labels -/
theorem Bld.putL (h : Bld e0 w0 N RB DB FB NB MB SB base w1 rs0 wr vn vl fv rv us ws Nn L F R D T) {vl' : Value} {x : Int} (hA : Appd wr w' base 3 1 vl vl' (L.length + 1) (L.map (Value.int .i64) ++ [Value.int IntKind.i64 x])) :
    Bld e0 w0 N RB DB FB NB MB SB base w1 rs0 (w'.setCell ⟨DB, 258, none⟩ vl') vn vl' fv rv us ws Nn (L ++ [x]) F R D T := by
  obtain ⟨n1, n2, n3, n4, n5, n6, n7, n8, n9, n10, n11, n12, n13, n14, n15⟩ := h.ne
  have hm : (⟨3, 1, vl, L.length, L.map (Value.int .i64)⟩ : R5) ∈ rows4 vn vl fv rv us ws Nn L F R := by simp [rows4]
  have ho := fun k hk => h.core.own.out _ hm k hk
  have hg := hA.grown
  have hb : But wr.heap.size (fun k => XP RB DB FB NB MB SB k ∨ vl.ownBlock = some k) wr (w'.setCell ⟨DB, 258, none⟩ vl') := ((But.refl _ _ _).grown hg (fun k e => .inl (.inr e)) (Nat.le_refl _)).store (.inl (.inl (.inr (.inl rfl)))) 258 _
  have hrow : (w'.setCell ⟨DB, 258, none⟩ vl').ownsRow base 3 1 vl' (L.length + 1) (L.map (Value.int .i64) ++ [Value.int IntKind.i64 x]) := ownsRow_same hA.own fun k hk => heap_setCell_other _ _ _ _ fun e => by
    have e2 : k = DB := e
    subst e2
    rcases hA.at k hk with e | e
    · exact ho _ e (.inr (.inl rfl))
    · have := h.d.lt; omega
  have hdk := (hg.block DB h.d.lt fun e => ho _ e.symm (.inr (.inl rfl))).trans h.d
  exact ⟨h.core.putL hb hrow hA.at, DfaAt.putLabel hdk vl', DfaAt.put ((hg.block RB h.res.lt fun e => ho _ e.symm (.inl rfl)).trans h.res) _ n1, (heap_setCell_other _ _ _ _ (Ne.symm n6)).trans ((hg.block FB h.fb.lt fun e => ho _ e.symm (.inr (.inr (.inl rfl)))).trans h.fb), (heap_setCell_other _ _ _ _ (Ne.symm n7)).trans ((hg.block NB h.nb.lt fun e => ho _ e.symm (.inr (.inr (.inr (.inl rfl))))).trans h.nb),
    (h.mp.kept hg (fun e => ho _ e.symm (.inr (.inr (.inr (.inr (.inl rfl))))))).setCell (Ne.symm n8) _, h.num, (TabAt.at h.seen (hg.block SB h.seen.lt fun e => ho _ e.symm (.inr (.inr (.inr (.inr (.inr rfl))))))).other _ (Ne.symm n9), (h.below.grown hg (Nat.le_trans h.lo.1 h.lo.2.1) (fun k e => Nat.le_trans h.lo.1 (h.core.own.lt hm e).1)).setCell (show e0 ≤ DB from h.lo.2.2.2.1) _, ⟨h.lo.1, by simpa using Nat.le_trans h.lo.2.1 hg.size, h.lo.2.2⟩, h.ne⟩
/-- the row is let go -/
theorem Bld.dropR (h : Bld e0 w0 N RB DB FB NB MB SB base w1 rs0 wr vn vl fv rv us ws Nn L F R D T) : Bld e0 w0 N RB DB FB NB MB SB base w1 rs0 wr vn vl fv (.slice none 0 0) us ws Nn L F [] D T ∧ ElR (FarN base wr (XP RB DB FB NB MB SB) (rows4 vn vl fv (.slice none 0 0) us ws Nn L F [])) wr rv R :=
  ⟨⟨h.core.dropR.1, h.d, h.res, h.fb, h.nb, h.mp, h.num, h.seen, h.below, h.lo, h.ne⟩, h.core.dropR.2⟩
/-- a list is numbered -/
theorem Bld.number (h : Bld e0 w0 N RB DB FB NB MB SB base w1 rs0 wr vn vl fv rv us ws Nn L F R D T) {u : Value} {t : List Int} {e : Ending} (hu : ElR (FarR wr (XP RB DB FB NB MB SB) (rows4 vn vl fv rv us ws Nn L F R)) wr u t) (hr : NumR wr FB MB base fv u ws F t F.length e w') :
    ∃ (x : Int) (fv' : Value) (ws' : List Value) (D' : DataW Unit), e = .returned (.int .i64 x) ∧ Bld e0 w0 N RB DB FB NB MB SB base w1 rs0 w' vn vl fv' rv us ws' Nn L (if t = [] then F else if findI t F 0 < 0 then F ++ [t] else F) R D' T ∧ x = (if t = [] then -1 else if findI t F 0 < 0 then (F.length : Int) else findI t F 0) := by
  obtain ⟨n1, n2, n3, n4, n5, n6, n7, n8, n9, n10, n11, n12, n13, n14, n15⟩ := h.ne
  rcases hr with ⟨x, rfl, hx, hb⟩ | ⟨ht, hF, rfl, fv', D', h1, h2, h3, h4, h5, h6⟩
  · refine ⟨x, fv, ws, D, rfl, ?_, ?_⟩
    · rcases hx with ⟨e1, _⟩ | ⟨e1, e2, _⟩
      · rw [if_pos e1]; exact h.kept hb
      · rw [if_neg e1, if_neg (fun e3 => by
          rcases findI_ge t F 0 with e4 | e4
          · exact absurd e2 ((findI_no t F 0).1 e4)
          · omega)]
        exact h.kept hb
    · rcases hx with ⟨e1, rfl⟩ | ⟨e1, e2, rfl⟩
      · rw [if_pos e1]
      · rw [if_neg e1, if_neg (fun e3 => by
          rcases findI_ge t F 0 with e4 | e4
          · exact absurd e2 ((findI_no t F 0).1 e4)
          · omega)]
  · have hneg : findI t F 0 < 0 := by
      have := (findI_no t F 0).2 hF
      omega
    have hm : (⟨23, 1, fv, F.length, ws⟩ : R5) ∈ rows4 vn vl fv rv us ws Nn L F R := by simp [rows4]
    have ho := fun k hk => h.core.own.out _ hm k hk
    have k0 := fun k (hk : k < wr.heap.size) (a : k ≠ FB) (b : k ≠ MB) (c : fv.ownBlock ≠ some k) => h6.block k hk (fun e => by
      rcases e with e | e | e
      · exact a e
      · exact b e
      · exact c e)
    refine ⟨_, fv', ws ++ [u], D', rfl, ?_, by rw [if_neg ht, if_pos hneg]⟩
    rw [if_neg ht, if_pos hneg]
    refine ⟨h.core.putF hu (h6.mono (Nat.le_refl _) fun k e _ => ?_) h4 h5, (k0 DB h.d.lt n6 n8 fun e => ho _ e (.inr (.inl rfl))).trans h.d, (k0 RB h.res.lt n2 n4 fun e => ho _ e (.inl rfl)).trans h.res, h1, (k0 NB h.nb.lt (Ne.symm n10) n13 fun e => ho _ e (.inr (.inr (.inr (.inl rfl))))).trans h.nb, ?_, h3, TabAt.at h.seen (k0 SB h.seen.lt (Ne.symm n12) (Ne.symm n15) fun e => ho _ e (.inr (.inr (.inr (.inr (.inr rfl)))))),
      h.below.trans (h6.under (Nat.le_trans h.lo.1 h.lo.2.1) fun k e => ?_), ⟨h.lo.1, Nat.le_trans h.lo.2.1 h6.size, h.lo.2.2⟩, h.ne⟩
    · rcases e with e | e | e
      · exact .inl (.inr (.inr (.inl e)))
      · exact .inl (.inr (.inr (.inr (.inr (.inl e)))))
      · exact .inr e
    · rw [List.length_append]
      exact h2
    · rcases e with e | e | e
      · subst e; exact h.lo.2.2.2.2.1
      · subst e; exact h.lo.2.2.2.2.2.2.1
      · exact Nat.le_trans h.lo.1 (h.core.own.lt hm e).1
end
/-- the beginning -/
theorem core_start {w7 : World} {X : Nat → Prop} {base FL : Nat} (hFL : w7.heap[FL]? = some (.cells #[.slice none 0 0] 23 (0, 0))) (hb : base ≤ FL) (hX : ∀ k, X k → k < w7.heap.size) (hn : ¬ X FL) :
    Core X base w7 (rows4 (.slice none 0 0) (.slice none 0 0) (.slice (some ⟨FL, 0, none⟩) 1 1) (.slice none 0 0) [] [.slice none 0 0] [] [] [[]] []) w7 (.slice none 0 0) (.slice none 0 0) (.slice (some ⟨FL, 0, none⟩) 1 1) (.slice none 0 0) [] [.slice none 0 0] [] [] [[]] [] := by
  have hob : ∀ r ∈ rows4 (.slice none 0 0) (.slice none 0 0) (.slice (some ⟨FL, 0, none⟩) 1 1) (.slice none 0 0) [] [.slice none 0 0] [] [] [[]] [], ∀ k, r.v.ownBlock = some k → k = FL := by
    intro r hr k hk
    simp only [rows4, List.mem_cons, List.not_mem_nil, or_false] at hr
    rcases hr with rfl | rfl | rfl | rfl <;> simp [Value.ownBlock] at hk
    omega
  refine ⟨⟨?_, ?_, fun r hr k hk hx => ?_, hX⟩, Els.nil _ _, ⟨rfl, fun i hi => ?_⟩, StayR.refl _ _ _⟩
  · intro r hr
    simp only [rows4, List.mem_cons, List.not_mem_nil, or_false] at hr
    rcases hr with rfl | rfl | rfl | rfl
    · exact World.ownsRow_nil _ _ _ _
    · exact World.ownsRow_nil _ _ _ _
    · exact ⟨rfl, .inr ⟨FL, 1, _, rfl, hb, hFL, Nat.le_refl _, by decide, rfl, rfl⟩⟩
    · exact World.ownsRow_nil _ _ _ _
  · simp [rows4, away, Value.ownBlock]
  · rw [hob r hr k hk] at hx
    exact hn hx
  · have hi0 : i = 0 := by have h1 : i < 1 := hi; omega
    subst hi0
    exact ⟨_, _, rfl, Nat.le_refl _, by decide, (fun _ => rfl), fun hp => absurd hp (by simp)⟩
/-- the far blocks are more -/
theorem PathR.more {G G' : Nat → Prop} {e0 P CB BF SB : Nat} {w : World} {vs vo vl vf v1 b1 : Value} {us : Nat → Value} {K : Nat → List Nat} {N : NetM} (h : PathR G e0 w P CB BF SB vs vo vl vf v1 b1 us K N) (hg : ∀ k, G k → G' k) (hs : ¬ G' SB) : PathR G' e0 w P CB BF SB vs vo vl vf v1 b1 us K N :=
  ⟨h.obj, h.net, h.bare, h.first.mono fun k hk => ⟨hg k hk, rfl⟩, h.cls, fun q hq => (h.el q hq).mono fun k hk => ⟨hg k hk, rfl⟩, ⟨hg _ h.far.1, hg _ h.far.2.1, hg _ h.far.2.2.1, hs⟩, fun k hk => hg k (h.low k hk)⟩
end Go.Proofs.YtmpjjnjggihojaaGreatDoor

/- Contract of the reference's Build. -/
namespace Go.Proofs.YtmpjjnjggihojaaGreatDoor
open Go.RowKit Go.Lib Go.Joins

/-- a machine, a number, an error -/
def RetB (w : World) (N : NetM) (most : Int) (e : Ending) (w' : World) : Prop := ∃ vn vl, e = .returned (.tuple #[dfaA (machB N most).cls (machB N most).width vn vl, .int .i64 (cntB N most), .int .i64 (errB N most)]) ∧ RdDfa w'.heap.size w' vn vl (machB N most) ∧ Below w.heap.size w w'
theorem retB_none {w w' : World} {N : NetM} {most x : Int} (hx : errB N most = x) (h0 : x ≠ 0) (hb : Below w.heap.size w w') : RetB w N most (.returned (.tuple #[dfaA zG 0 (.slice none 0 0) (.slice none 0 0), .int .i64 0, .int .i64 x])) w' := by
  subst hx
  refine ⟨.slice none 0 0, .slice none 0 0, ?_, ?_, hb⟩
  · unfold machB cntB
    rw [if_neg h0, if_neg h0]
    rfl
  · unfold machB
    rw [if_neg h0]
    exact ⟨⟨none, 0, rfl, by simp [noneD], by decide, fun _ => rfl, fun hp => by simp [noneD] at hp⟩, ⟨none, 0, rfl, by simp [noneD], by decide, fun _ => rfl, fun hp => by simp [noneD] at hp⟩, fun j _ => by simp [noneD]⟩
theorem sets_net {w : World} {a : Option Addr} {n c : Nat} {N : NetM} (h : RdS w.heap.size w (.slice a n c) N.sets) (hw : ∀ s ∈ N.sets, s.wide) (hn : n = N.sets.length) : Sets w a n (N.sets.map bitsE) := by
  subst hn
  refine ⟨by simp, fun hp => ?_⟩
  obtain ⟨a', cap, e, _, _, _, h4⟩ := h
  simp only [Value.slice.injEq] at e
  obtain ⟨rfl, _, _⟩ := e
  obtain ⟨b, off, e, hb, hc⟩ := h4 hp
  refine ⟨b, off, e, hb, fun i hi j hj => ?_⟩
  obtain ⟨x0, x1, x2, x3⟩ := hc i hi
  have hg : (N.sets.map bitsE).getD i fNone = bitsE (N.sets.getD i default) := by simp [List.getD_eq_getElem?_getD, hi]
  have hwd : (N.sets.getD i default).wide := hw _ (by rw [List.getD_eq_getElem?_getD, List.getElem?_eq_getElem hi]; exact List.getElem_mem hi)
  obtain ⟨m0, m1, m2, m3⟩ := bitsE_words hwd
  rw [hg]
  match j, hj with
  | 0, _ => rw [m0]; exact x0
  | 1, _ => rw [m1]; exact x1
  | 2, _ => rw [m2]; exact x2
  | 3, _ => rw [m3]; exact x3

/-- done: as many rows as lists -/
theorem built {N : NetM} {M k : Nat} {most : Int} (hr : rightB N = true) (hM : (M : Int) = most) (h1 : 1 ≤ most) (h2 : most ≤ 4096) (hk : (machS N k).1.length = k) (hkM : k ≤ M) : errB N most = 0 ∧ machB N most = machM N k ∧ cntB N most = k := by
  have e : machS N (M + 1) = machS N k := outS_end (goN N) (tokenM N) (widN N) hkM (Nat.le_of_eq hk)
  have hf : fndN N M = k := by unfold fndN; rw [e, hk]
  have h3 : most.toNat = M := by omega
  have he : errB N most = 0 := by
    unfold errB
    rw [if_neg (by simp [hr]), if_neg (by omega), h3, hf, if_neg (by omega)]
  exact ⟨he, by unfold machB; rw [if_pos he, h3, hf], by unfold cntB; rw [if_pos he, h3, hf]⟩
/-- the machine that is built comes back -/
theorem retB_done {w w0 wr w' : World} {base RB DB : Nat} {N : NetM} {k : Nat} {most : Int} {vn vl fv rv : Value} {us ws : List Value} {F : List (List Int)} {R : List Int} (h : DfSt w0 base wr RB DB (clsN N) (widN N) vn vl fv rv us ws (machS N k).2.1 (machS N k).2.2 F R)
    (hg : wr.grownBy w' (some RB)) (hb : Below w.heap.size w w') (hbt : errB N most = 0 ∧ machB N most = machM N k ∧ cntB N most = k) : RetB w N most (.returned (.tuple #[dfaA (clsN N) (widN N) vn vl, .int .i64 k, .int .i64 0])) w' := by
  obtain ⟨h1, h2, h3⟩ := hbt
  refine ⟨vn, vl, by rw [h2, h3, h1]; rfl, ?_, hb⟩
  rw [h2]
  have hk : ∀ j, FarR wr (XB RB DB) (rows4 vn vl fv rv us ws (machS N k).2.1 (machS N k).2.2 F R) j → j < w'.heap.size ∧ w'.heap[j]? = wr.heap[j]? := fun j hj =>
    ⟨Nat.lt_of_lt_of_le hj.1 hg.size, hg.block j hj.1 fun e => hj.2.1 (.inl (by simpa using e))⟩
  refine ⟨(h.elN.mono hk).reads (World.ownsRow.kept h.rowN hg (.inr fun e => h.own.out ⟨23, 1, vn, (machS N k).2.1.length, us⟩ (by simp [rows4]) RB e (.inl rfl))) fun _ hj => hj, ?_, fun j hj => Nat.lt_of_lt_of_le (cls_lt _ hj) (cntK_le _ 256)⟩
  have hL : RowZ w' base vl (machS N k).2.2 := World.ownsRow.kept h.rowL hg (.inr fun e => h.own.out ⟨3, 1, vl, (machS N k).2.2.length, (machS N k).2.2.map (Value.int .i64)⟩ (by simp [rows4]) RB e (.inl rfl))
  exact hL.reads
/-- something is loaded -/
theorem load_any14 {ops : Array Oper} {rest : List Oper} {o : Oper} {a : Act} {w : World} {Q : Exit → Act → World → Prop} (hgd : o.guard = none) {t : TypeId} {x : Operand} {p : Addr} {v : Value} (ho : o.op = .load t x) (hx : a.eval x = .pointer (some p))
    (hl : (loadVar t p).run Tryz.prog w = .ok v w) (h : wpList Tryz.prog ops Q rest (a.put o.dst v) w) : wpList Tryz.prog ops Q (o :: rest) a w :=
  wpList_plain hgd fun _ hK => by
    unfold Oper.wp execOp
    simp only [ho, hx, Instr.loadAt, Instr.sureAddr, Sem.run_bind, Sem.run_pure, Result.andThen_ok, hl]
    exact hK _ _ h
theorem wp_load_any {o : Oper} {a : Act} {w : World} {K : Act → World → Prop} {Q : Exit → Act → World → Prop} {t : TypeId} {x : Operand} {p : Addr} {v : Value} (ho : o.op = .load t x) (hx : a.eval x = .pointer (some p))
    (hl : (loadVar t p).run Tryz.prog w = .ok v w) (h : K (a.put o.dst v) w) : o.wp Tryz.prog a w K Q := by
  unfold Oper.wp execOp
  simp only [ho, hx, Instr.loadAt, Instr.sureAddr, Sem.run_bind, Sem.run_pure, Result.andThen_ok, hl]
  exact h
/-- the machine that is built, and a list beside it -/
def MidD (w0 : World) (base RB DB : Nat) (g : Nat → Nat) (wd : Int) (vn vl fv rv : Value) (us ws : List Value) (N : List (List Int)) (L : List Int) (F : List (List Int)) (R : List Int) (t : List Int) (tv : Value) (wx : World) : Prop :=
  DfSt w0 base wx RB DB g wd vn vl fv rv us ws N L F R ∧ ElR (FarR wx (XB RB DB) (rows4 vn vl fv rv us ws N L F R)) wx tv t
theorem ElR.form {P : Nat → Prop} {w : World} {v : Value} {l : List Int} (h : ElR P w v l) : ∃ a c, v = .slice a l.length c := by
  obtain ⟨a, c, rfl, _⟩ := h
  exact ⟨a, c, rfl⟩
theorem ElR.reads {P : Nat → Prop} {w : World} {v : Value} {l : List Int} (h : ElR P w v l) (hP : ∀ k, P k → k < w.heap.size) : RdZ w.heap.size w v l := by
  obtain ⟨a, c, e, k1, k2, k3, k4⟩ := h
  exact ⟨a, c, e, k1, k2, k3, fun hp => by
    obtain ⟨b, off, e, hPb, hc⟩ := k4 hp
    exact ⟨b, off, e, hP b hPb, hc⟩⟩
set_option maxHeartbeats 8000000 in
set_option maxRecDepth 100000 in
theorem rBuild_calls {w : World} {vs vo vl vf v1 : Value} {N : NetM} (most : Int) (h : RdNet w.heap.size w vs vo vl vf v1 N) (hw : ∀ s ∈ N.sets, s.wide) (hn : N.sets.length ≤ 900) (hf : ∀ i, (N.fol.getD i []).length ≤ 1000) :
    Calls Tryz.prog 10 #[.agg #[vs, vo, vl, vf, v1], .int .i64 most] w (RetB w N most) := by
  obtain ⟨sa, cs, rfl⟩ := h.sets.form
  have hba := (Below.refl w.heap.size w).alloc (Nat.le_refl _) (.cells #[.slice sa N.sets.length cs, vo, vl, vf, v1] 27)
  have hbx := net_box w (.slice sa N.sets.length cs) vo vl vf v1 27
  obtain ⟨w0, hw0⟩ : ∃ w0, w0 = w.alloc (.cells #[.slice sa N.sets.length cs, vo, vl, vf, v1] 27) := ⟨_, rfl⟩
  have hs0 : w0.heap.size = w.heap.size + 1 := by rw [hw0]; simp
  rw [← hw0] at hba hbx
  have HBA := hidden hba
  have HBX := hidden hbx
  have HW0 := hidden hw0
  have HS0 := hidden hs0
  have HN := hidden h
  have HW := hidden hw
  have HF := hidden hf
  have HN9 := hidden hn
  have hal := run_zero_dfa
  have hbu := run_build_dfa
  have hr0 : DfaAt (w0.alloc (.cells (dfaC zG 0 (.slice none 0 0) (.slice none 0 0)) 32)) (w.heap.size + 1) zG 0 (.slice none 0 0) (.slice none 0 0) := DfaAt.newAt hs0
  have HR0 := hidden hr0
  have HB0 := hidden ((Below.refl (w.heap.size + 1) w0).alloc (Nat.le_of_eq hs0.symm) (.cells (dfaC zG 0 (.slice none 0 0) (.slice none 0 0)) 32))
  have HBW0 := hidden (hba.alloc (Nat.le_trans (Nat.le_succ _) (Nat.le_of_eq hs0.symm)) (.cells (dfaC zG 0 (.slice none 0 0) (.slice none 0 0)) 32))
  obtain ⟨m0, m1, m2, m3, m4⟩ := HBX.out _ HB0.out
  rw [hw0] at m0 m1 m2 m3 m4
  clear h hw hf hba hbx hw0 hs0 hr0
  go_enter Tryz.func10, Tryz.ntmps10
  go_wp2_with fail
  rw [← HW0.out]
  obtain ⟨W1, hW1⟩ : ∃ W1, W1 = w0.alloc (.cells (dfaC zG 0 (.slice none 0 0) (.slice none 0 0)) 32) := ⟨_, rfl⟩
  rw [← hW1] at HR0 HB0 HBW0 ⊢
  clear hW1 m0 m1 m2 m3 m4
  refine (rright12_calls (HN.out.below HBW0.out HBW0.out.size)).mono ?_
  rintro e w1 ⟨rfl, hb1⟩
  have HR1 := hidden (HR0.out.below hb1)
  have HB1 := hidden (below_then HB0.out (by have := HB0.out.size; have := HS0.out; omega) hb1)
  have HBW1 := hidden (below_then HBW0.out HBW0.out.size hb1)
  obtain ⟨m0, m1, m2, m3, m4⟩ := HBX.out _ HB1.out
  clear hb1 HR0 HB0 HBW0
  cases hr : rightB N with
  | false =>
    have HE := hidden (show errB N most = 3 by unfold errB; rw [if_pos hr])
    clear hr
    go_wp2_with (refine store_dfa rfl (x := .tmp 4) (y := .tmp 18) rfl rfl rfl HR1.out rfl rfl ?_; intro w2 hA2 hg2 hs2; have HA2 := hidden hA2; have HB2 := hidden (HBW1.out.grown hg2 HBW1.out.size (by intro k hk; simp only [Option.some.injEq] at hk; omega)); clear hA2 hg2)
    exact ret_dfa3 Tryz.results10 rfl rfl rfl rfl HA2.out (retB_none HE.out (by decide) HB2.out)
  | true =>
    have HRT := hidden hr
    clear hr
    by_cases hrg : most < 1 ∨ 4096 < most
    · have HE := hidden (show errB N most = 2 by unfold errB; rw [if_neg (by simp [HRT.out]), if_pos hrg])
      rcases hrg with hrg | hrg
      · go_wp2_with (refine store_dfa rfl (x := .tmp 4) (y := .tmp 25) rfl rfl rfl HR1.out rfl rfl ?_; intro w2 hA2 hg2 hs2; have HA2 := hidden hA2; have HB2 := hidden (HBW1.out.grown hg2 HBW1.out.size (by intro k hk; simp only [Option.some.injEq] at hk; omega)); clear hA2 hg2)
        exact ret_dfa3 Tryz.results10 rfl rfl rfl rfl HA2.out (retB_none HE.out (by decide) HB2.out)
      · have h1 : ¬ most < 1 := by omega
        go_wp2_with (refine store_dfa rfl (x := .tmp 4) (y := .tmp 25) rfl rfl rfl HR1.out rfl rfl ?_; intro w2 hA2 hg2 hs2; have HA2 := hidden hA2; have HB2 := hidden (HBW1.out.grown hg2 HBW1.out.size (by intro k hk; simp only [Option.some.injEq] at hk; omega)); clear hA2 hg2)
        exact ret_dfa3 Tryz.results10 rfl rfl rfl rfl HA2.out (retB_none HE.out (by decide) HB2.out)
    · have h1 : ¬ most < 1 := by omega
      have h2 : ¬ 4096 < most := by omega
      clear hrg
      clear m0 m1 m2 m3 m4
      have HBS1 := hidden (show w.heap.size + 1 ≤ w1.heap.size by have := HB1.out.size; have := HS0.out; omega)
      go_wp2_with (first
        | (refine store_dfa rfl (x := .tmp 7) (y := .tmp 26) rfl rfl rfl (DfaAt.new w1 zG 0 (.slice none 0 0) (.slice none 0 0)) rfl rfl ?_; intro w2 hA2 hg2 hs2; have HA2 := hidden hA2
           have HR2 := hidden ((HR1.out.alloc (.cells (dfaC zG 0 (.slice none 0 0) (.slice none 0 0)) 32)).grown hg2 (by have := HR1.out.lt; simp only [ne_eq, Option.some.injEq]; omega))
           have HB2 := hidden ((HB1.out.alloc HBS1.out (.cells (dfaC zG 0 (.slice none 0 0) (.slice none 0 0)) 32)).grown hg2 (by have := HBS1.out; simp; omega) (by intro k hk; simp only [Option.some.injEq] at hk; have := HBS1.out; omega))
           have HBW2 := hidden ((HBW1.out.alloc HBW1.out.size (.cells (dfaC zG 0 (.slice none 0 0) (.slice none 0 0)) 32)).grown hg2 (by have := HBW1.out.size; simp; omega) (by intro k hk; simp only [Option.some.injEq] at hk; have := HBW1.out.size; omega))
           obtain ⟨m0, m1, m2, m3, m4⟩ := HBX.out _ HB2.out; clear hA2 hg2 hs2 m1 m2 m3 m4)
        | fail)
      refine (krof_calls sa N.sets.length cs (N.sets.map bitsE) w2 (by omega) (sets_net (HN.out.below HBW2.out HBW2.out.size).sets HW.out rfl)).mono ?_
      rintro e w3 ⟨rfl, hb3⟩
      have HA3 := hidden (HA2.out.below hb3)
      have HR3 := hidden (HR2.out.below hb3)
      have HB3 := hidden (below_then HB2.out (by have := HBS1.out; have := HA2.out.lt; omega) hb3)
      have HBW3 := hidden (below_then HBW2.out HBW2.out.size hb3)
      have HD3 := hidden (show w.heap.size + 1 ≤ w1.heap.size ∧ w.heap.size + 1 ≠ w1.heap.size ∧ w.heap.size + 1 ≤ w3.heap.size from ⟨HBS1.out, by have := HR1.out.lt; omega, by have := HBS1.out; have := HA3.out.lt; omega⟩)
      clear hb3 HA2 HR2 HB2 HBW2 m0 HBS1
      rw [show clsK (keyL (List.map bitsE N.sets)) = clsN N from rfl, show cntK (keyL (List.map bitsE N.sets)) 256 = widN N from rfl]
      go_wp2_with (first
        | (refine store_cls rfl (x := .tmp 33) (y := .tmp 31) rfl rfl rfl HA3.out ?_; intro w4 hA4 hg4 hs4; have HA4 := hidden hA4
           have HR4 := hidden (HR3.out.grown hg4 (by have := HD3.out.2.1; simp only [ne_eq, Option.some.injEq]; omega))
           have HB4 := hidden (HB3.out.grown hg4 HD3.out.2.2 (by intro k hk; simp only [Option.some.injEq] at hk; have := HD3.out.1; omega))
           have HS4 := hidden hs4; have k1 := hA4.width; have k2 := hA4.frozen 256; clear hA4 hg4 hs4)
        | fail)
      obtain ⟨w5, hw5⟩ : ∃ w5, w5 = w4.setCell ⟨w1.heap.size, 256, none⟩ (.int .i64 (widN N)) := ⟨_, rfl⟩
      have hs5 : w5.heap.size = w4.heap.size := by rw [hw5]; simp
      have hst := DfSt.start (w := w5) (w0 := w0) (base := w.heap.size + 1) (RB := w.heap.size + 1) (DB := w1.heap.size) (g := clsN N) (wd := widN N) (by rw [hw5]; exact HA4.out.putWidth _) (by rw [hw5]; exact HR4.out.put _ HD3.out.2.1) HD3.out.2.1 ⟨Nat.le_refl _, HD3.out.1⟩ (by rw [hw5]; exact HB4.out.setCell HD3.out.1 _) (Nat.le_of_eq HS0.out.symm)
      rw [← hw5]
      rw [hs5] at hst
      obtain ⟨w6, hw6⟩ : ∃ w6, w6 = (w5.alloc (.cells #[] 3)).alloc (.cells #[.slice (some ⟨w4.heap.size, 0, none⟩) 0 0] 23) := ⟨_, rfl⟩
      rw [← hw6] at hst ⊢
      have HST := hidden hst
      have HNW := hidden (fun (wr : World) (hb : Below (w.heap.size + 1) w0 wr) => HN.out.below (hb.mono (Nat.le_succ _) |> fun x => HBA.out.trans x) (Nat.le_trans HBA.out.size (Nat.le_trans (Nat.le_of_eq rfl) hb.size)))
      clear hw5 hs5 hw6 hst k1 k2 HA4 HR4 HB4 HS4 HR3 HB3 HBW3 HA3 HB1 HR1 HBW1
      obtain ⟨M, hM⟩ : ∃ M : Nat, (M : Int) = most := ⟨most.toNat, by omega⟩
      have HM := hidden hM
      have HMM := hidden (show (M : Int) ≤ 4096 ∧ 1 ≤ M by omega)
      go_loopw [8, 9] (fun fv i wr => ∃ k vn vl us ws, k ≤ (machS N k).1.length ∧ (machS N k).1.length ≤ M ∧ i = .int .i64 (k : Nat) ∧ DfSt w0 (w.heap.size + 1) wr (w.heap.size + 1) w1.heap.size (clsN N) (widN N) vn vl fv (.slice none 0 0) us ws (machS N k).2.1 (machS N k).2.2 (machS N k).1 []) (fun _ i _ => M + 1 - (intOf i).toNat)
      case atStart => exact ⟨0, _, _, _, _, Nat.zero_le _, HMM.out.2, rfl, HST.out⟩
      case round =>
        obtain ⟨k, vn, vl', us, ws, hk, hkM, rfl, hS⟩ := hrel
        obtain ⟨fa, fc, hfv⟩ := hS.found.form
        subst hfv
        have HS := hidden hS
        have HK := hidden (show (machS N k).1.length ≤ M from hkM)
        obtain ⟨F, hF⟩ : ∃ F, F = (machS N k).1 := ⟨_, rfl⟩
        obtain ⟨n, hn1⟩ : ∃ n, n = F.length := ⟨_, rfl⟩
        have HFe := hidden hF
        have HNe := hidden hn1
        rw [← hF, ← hn1] at hk hkM
        rw [← hF] at HS HK
        rw [← hF, ← hn1]
        clear hS hF hn1 HST
        by_cases hlt : k < n
        · go_wp2_with fail
          have HSn := hidden HS.out.newR
          have HWD := hidden (show widN N ≤ 256 from cntK_le _ 256)
          have HLT := hidden (show ∀ j, j < 256 → clsN N j < 256 from fun j hj => Nat.lt_of_lt_of_le (cls_lt _ hj) (cntK_le _ 256))
          obtain ⟨wi, hwi⟩ : ∃ wi, wi = wr.alloc (.cells #[] 3) := ⟨_, rfl⟩
          rw [← hwi] at HSn ⊢
          clear hwi
          go_loopw [8, 10, 11] (fun fv rv i wq => ∃ c ws', c ≤ widN N ∧ i = .int .i64 (c : Nat) ∧ (rowS (goN N) k F c).1.length ≤ M ∧ DfSt w0 (w.heap.size + 1) wq (w.heap.size + 1) w1.heap.size (clsN N) (widN N) vn vl' fv rv us ws' (machS N k).2.1 (machS N k).2.2 (rowS (goN N) k F c).1 (rowS (goN N) k F c).2) (fun _ _ i _ => widN N - (intOf i).toNat)
          case atStart =>
            refine ⟨0, ws, Nat.zero_le _, rfl, HK.out, ?_⟩
            rw [HNe.out]
            exact HSn.out
          case round =>
            obtain ⟨c, ws', hc, rfl, hcM, hS⟩ := hrel
            obtain ⟨fa', fc', hfv⟩ := hS.found.form
            subst hfv
            obtain ⟨ra, rc, hrv⟩ := hS.rowR.form
            subst hrv
            have HQ := hidden hS
            have k1 := hS.d.width
            obtain ⟨G, hG⟩ : ∃ G, G = (rowS (goN N) k F c).1 := ⟨_, rfl⟩
            obtain ⟨R, hR⟩ : ∃ R, R = (rowS (goN N) k F c).2 := ⟨_, rfl⟩
            obtain ⟨n2, hn2⟩ : ∃ n, n = G.length := ⟨_, rfl⟩
            obtain ⟨r2, hr2⟩ : ∃ n, n = R.length := ⟨_, rfl⟩
            have HG := hidden hG
            have HR := hidden hR
            have HG2 := hidden hn2
            have HR2 := hidden hr2
            rw [← hG] at HQ hcM
            rw [← hR] at HQ
            rw [← hG, ← hR, ← hn2, ← hr2]
            rw [← hn2] at hcM
            obtain ⟨W, hWq⟩ : ∃ W, W = widN N := ⟨_, rfl⟩
            have HWq := hidden hWq
            have hW6 : W ≤ 256 := by have := HWD.out; omega
            rw [← hWq] at hc k1
            clear hS hG hR hn2 hr2 hWq HSn
            by_cases hcl : c < W
            · go_wp2_with (first | (refine load_any14 rfl (x := .tmp 50) rfl rfl (run_load_cls HQ.out.d) ?_) | (refine wp_load_any (x := .tmp 50) rfl rfl (run_load_cls HQ.out.d) ?_))
              refine (rbytes_calls (clsN N) (c : Int) _ HLT.out).mono ?_
              rintro e w7 ⟨v7, rfl, hrow, hb7⟩
              have HQ7 := hidden (HQ.out.kept hb7)
              obtain ⟨r, hr⟩ := lst_cons (netK N) (show c < cntK (netK N) 256 by have := HWq.out; unfold widN at this; omega)
              rw [show clsN N = clsK (netK N) from rfl, hr, List.map_cons] at hrow
              have hlf := (lf_is (netK N) (show c < cntK (netK N) 256 by have := HWq.out; unfold widN at this; omega)).1
              have HLF := hidden hlf
              obtain ⟨bb, hbb⟩ : ∃ b, b = lf (netK N) c := ⟨_, rfl⟩
              have HBB := hidden hbb
              rw [← hbb] at hrow
              obtain ⟨ln, hln⟩ : ∃ n, n = (bb :: r).length := ⟨_, rfl⟩
              have hln0 : 0 < ln := by rw [hln]; simp
              rw [← hln] at hrow
              rcases hrow.2 with ⟨_, h0⟩ | ⟨gb, cap, cur, rfl, _, hgb, _⟩
              · omega
              have hc0 : w7.cell? ⟨gb, 0, none⟩ = some (.int .u8 (bb : Int)) := by
                rw [World.ownsRow.cellAt hrow 0 (by omega)]; rfl
              have hFG : F <+: G := by rw [HG.out]; exact rowS_pre (goN N) k F (Nat.zero_le c)
              have hnn : n ≤ n2 := by have := hFG.length_le; have := HNe.out; have := HG2.out; omega
              have hgk : G.getD k [] = F.getD k [] := pre_getD hFG (by have := HNe.out; omega) []
              have hl9 : (F.getD k []).length ≤ 900 := by
                have hin : F.getD k [] ∈ F := by
                  rw [List.getD_eq_getElem?_getD, List.getElem?_eq_getElem (show k < F.length by have := HNe.out; omega)]
                  exact List.getElem_mem _
                rw [HFe.out] at hin ⊢
                refine outS_all (goN N) (tokenM N) (widN N) (P := fun l => l.length ≤ 900) (by simp) (fun i l c => ?_) k _ hin
                show (goN N i l c).length ≤ 900
                unfold goN
                split
                · rw [spI_len]; exact Nat.le_trans (startM_len N _) HN9.out
                · rw [spI_len]; exact Nat.le_trans (stepM_len N _ _) HN9.out
              have HQd := hidden (HQ7.out.kept (w' := w7.drew) (Below.refl _ _).drew)
              obtain ⟨m0, m1, m2, m3, m4⟩ := HBX.out _ HQd.out.below
              have hfd := HQd.out.found
              rw [← HG2.out] at hfd
              obtain ⟨fb, fo, a8, c8, rfl, _, hfc, hrd⟩ := RdZZ.at hfd (Below.refl _ _) k (by have := HG2.out; omega)
              rw [hgk] at hfc hrd
              have HL9 := hidden hl9
              obtain ⟨T, hT⟩ : ∃ T, T = F.getD k [] := ⟨_, rfl⟩
              have HT := hidden hT
              have HGK := hidden (show G.getD k [] = T from hgk.trans hT.symm)
              rw [← hT] at hfc hrd HL9
              obtain ⟨tl, htl⟩ : ∃ n, n = T.length := ⟨_, rfl⟩
              have HRD := hidden hrd
              have HTL := hidden htl
              rw [← htl] at hfc HRD
              have HND := hidden (HNW.out _ HQd.out.below)
              have hkn : (k : Int) < (n2 : Int) := by omega
              clear hb7 hr hlf hbb hln hrow hgb k1 hFG hgk hl9 hfd hrd hT htl HQ
              have hbb6 : bb < 256 := by have := HBB.out; have := HLF.out; omega
              go_wp2_with fail
              go_cut [13] from 44 to 90 (fun tv wx => MidD w0 (w.heap.size + 1) (w.heap.size + 1) w1.heap.size (clsN N) (widN N) vn vl' (.slice (some ⟨fb, fo, none⟩) G.length fc') (.slice ra R.length rc) us ws' (machS N k).2.1 (machS N k).2.2 G R (spI (stepM N T bb)) tv wx)
              case first =>
                have HB6 := hidden hbb6
                clear hbb6 HQ7
                rw [HTL.out] at hfc HRD
                go_region_law ((go_simp; refine (rStep_calls (b := bb) HND.out HW.out (by have := HN9.out; omega) HRD.out HB6.out HF.out HL9.out).mono ?_; rintro e w8 ⟨v8, rfl, hr8, hb8⟩; have HM8 := hidden (⟨HQd.out.kept hb8, (HQd.out.kept (Below.refl _ _)).fresh hr8⟩ : MidD w0 (w.heap.size + 1) (w.heap.size + 1) w1.heap.size (clsN N) (widN N) vn vl' (.slice (some ⟨fb, fo, none⟩) G.length fc') (.slice ra R.length rc) us ws' (machS N k).2.1 (machS N k).2.2 G R (spI (stepM N T bb)) v8 w8); clear hr8 hb8; dsimp only))
                all_goals (try go_wp2_with fail)
                all_goals go_meet
                all_goals exact HM8.out
              case rest =>
                obtain ⟨hQ8, hE8⟩ := hcut
                obtain ⟨a9, c9, hv9⟩ := hE8.form
                subst hv9
                have HQ8 := hidden hQ8
                have HE8 := hidden hE8
                obtain ⟨p0, p1, p2, p3, p4⟩ := HBX.out _ hQ8.below
                have HND8 := hidden (HNW.out _ hQ8.below)
                have HGO := hidden (show goN N k T c = if k = 0 then spI (startM N bb) else spI (stepM N T bb) by unfold goN; rw [HBB.out])
                have HB6 := hidden hbb6
                clear hQ8 hE8 hbb6 hc0 m0 m1 m2 m3 m4 hfc HRD HND HQd HQ7 hln0
                go_upto_if 64 with (fail)
                go_cut [13] from 44 to 90 (fun tv wx => MidD w0 (w.heap.size + 1) (w.heap.size + 1) w1.heap.size (clsN N) (widN N) vn vl' (.slice (some ⟨fb, fo, none⟩) G.length fc') (.slice ra R.length rc) us ws' (machS N k).2.1 (machS N k).2.2 G R (goN N k T c) tv wx)
                case first =>
                  by_cases hk0 : k = 0
                  · have q1 : ((k : Int) == 0) = true := by simp [hk0]
                    have q2 : decide ((k : Int) = 0) = true := by simp [hk0]
                    have HK0 := hidden hk0
                    clear hk0
                    go_wp2_with fail
                    refine (rstart_calls (b := bb) HND8.out HW.out (by have := HN9.out; omega) HB6.out).mono ?_
                    rintro e w9 ⟨v9, rfl, hr9, hb9⟩
                    have HM9 := hidden (⟨HQ8.out.kept hb9, HQ8.out.fresh hr9⟩ : MidD w0 (w.heap.size + 1) (w.heap.size + 1) w1.heap.size (clsN N) (widN N) vn vl' (.slice (some ⟨fb, fo, none⟩) G.length fc') (.slice ra R.length rc) us ws' (machS N k).2.1 (machS N k).2.2 G R (spI (startM N bb)) v9 w9)
                    clear hr9 hb9 q1 q2
                    go_wp2_with fail
                    go_meet
                    rw [HGO.out, if_pos HK0.out]
                    exact HM9.out
                  · have q1 : ((k : Int) == 0) = false := by simp [hk0]
                    have q2 : decide ((k : Int) = 0) = false := by simp [hk0]
                    have HK0 := hidden hk0
                    clear hk0
                    go_wp2_with fail
                    go_meet
                    rw [HGO.out, if_neg HK0.out]
                    exact ⟨HQ8.out, HE8.out⟩
                case rest =>
                  obtain ⟨hQ9, hE9⟩ := hcut
                  obtain ⟨X, hX⟩ : ∃ X, X = goN N k T c := ⟨_, rfl⟩
                  have HX := hidden hX
                  rw [← hX] at hE9
                  obtain ⟨aX, cX, hvX⟩ := hE9.form
                  subst hvX
                  have HQ9 := hidden hQ9
                  have HE9 := hidden hE9
                  have HRX := hidden (hE9.reads fun _ hk => hk.1)
                  obtain ⟨xl, hxl⟩ : ∃ n, n = X.length := ⟨_, rfl⟩
                  have HXL := hidden hxl
                  rw [← hxl]
                  have HFD := hidden hQ9.found
                  rw [← hxl] at HRX
                  rw [← HG2.out] at HFD
                  clear hX hQ9 hE9 hxl p0 p1 p2 p3 p4 HQ8 HE8 HND8 HGO
                  go_wp2_with fail
                  refine (find14_calls HFD.out HRX.out).mono ?_
                  rintro e w10 ⟨rfl, hb10⟩
                  have HM10 := hidden (⟨HQ9.out.kept hb10, HE9.out.mono (StayR.below hb10)⟩ : MidD w0 (w.heap.size + 1) (w.heap.size + 1) w1.heap.size (clsN N) (widN N) vn vl' (.slice (some ⟨fb, fo, none⟩) G.length fc') (.slice ra R.length rc) us ws' (machS N k).2.1 (machS N k).2.2 G R X (.slice aX X.length cX) w10)
                  clear hb10 HQ9 HE9 HRX HFD
                  have HCL := hidden (show rowS (goN N) k F (c + 1) = if X = [] then (G, R ++ [-1]) else if findI X G 0 < 0 then (G ++ [X], R ++ [(G.length : Int)]) else (G, R ++ [findI X G 0]) by
                    show clsS (goN N) k (rowS (goN N) k F c) c = _
                    rw [show rowS (goN N) k F c = (G, R) from Prod.ext HG.out.symm HR.out.symm]
                    unfold clsS
                    simp only [HGK.out, ← HX.out])
                  have hfl := findI_ge X G 0
                  obtain ⟨fi, hfi⟩ : ∃ x, x = findI X G 0 := ⟨_, rfl⟩
                  rw [← hfi] at HCL hfl ⊢
                  have HFI := hidden hfi
                  clear hfi
                  have HFL := hidden hfl
                  clear hfl
                  go_upto_if 73 with (fail)
                  go_cut [8, 14] from 44 to 90 (fun fv av wx => ∃ ws2 x, av = .int .i64 x ∧ DfSt w0 (w.heap.size + 1) wx (w.heap.size + 1) w1.heap.size (clsN N) (widN N) vn vl' fv (.slice ra R.length rc) us ws2 (machS N k).2.1 (machS N k).2.2 (rowS (goN N) k F (c + 1)).1 R ∧ (rowS (goN N) k F (c + 1)).2 = R ++ [x])
                  case first =>
                    by_cases hx0 : X = []
                    · have hz : xl = 0 := by rw [HXL.out, hx0]; rfl
                      have q1 : ((xl : Int) == 0) = true := by simp [hz]
                      have q2 : decide ((xl : Int) = 0) = true := by simp [hz]
                      have HX0 := hidden hx0
                      clear hx0 hz
                      go_wp2_with fail
                      go_meet
                      rw [HCL.out, if_pos HX0.out, HG2.out]
                      exact ⟨ws', -1, rfl, HM10.out.1, rfl⟩
                    · have hz : xl ≠ 0 := by
                        rw [HXL.out]
                        intro e
                        exact hx0 (List.eq_nil_of_length_eq_zero e)
                      have q1 : ((xl : Int) == 0) = false := by simp [hz]
                      have q2 : decide ((xl : Int) = 0) = false := by simp [hz]
                      have HX0 := hidden hx0
                      clear hx0 hz
                      by_cases hneg : fi < 0
                      · have HNEG := hidden hneg
                        have hal2 : Below w10.heap.size w10 (w10.alloc (.cells #[.slice aX xl cX] 23)) := (Below.refl w10.heap.size w10).alloc (Nat.le_refl _) _
                        have HQa := hidden (HM10.out.1.kept hal2)
                        have HEa := hidden (HM10.out.2.mono (StayR.below hal2))
                        have hown := HQa.out.rowF
                        rw [← HG2.out] at hown
                        have HOW := hidden hown
                        have HI := hidden infoZZ
                        have HBS := hidden HQa.out.sz
                        have HLN := hidden (show n2 + 1 ≤ 1000000 by have := HMM.out; omega)
                        clear hown hal2
                        go_wp2_with (at_builtin; (first | refine wpList_app (v := .slice (some ⟨fb, fo, none⟩) n2 fc') rfl _ _ rfl HI.out Tryz.underlying25 rfl (by decide) (by decide) rfl HOW.out rfl (Src.one w10 (.slice aX xl cX) 23 _ rfl) (by simp) (by simp [Value.oneCell']) HLN.out HBS.out ?_ | refine wp_app (v := .slice (some ⟨fb, fo, none⟩) n2 fc') _ _ rfl HI.out Tryz.underlying25 rfl (by decide) (by decide) rfl HOW.out rfl (Src.one w10 (.slice aX xl cX) 23 _ rfl) (by simp) (by simp [Value.oneCell']) HLN.out HBS.out ?_); intro v11 w11 hA; have HA11 := hidden hA; obtain ⟨a11, c11, hv11⟩ := row_slice14 hA.own; subst hv11; clear hA)
                        go_meet
                        have hA := HA11.out
                        have hQa := HQa.out
                        rw [← HG2.out] at hQa
                        rw [HCL.out, if_neg HX0.out, if_pos HNEG.out]
                        refine ⟨ws' ++ [.slice aX xl cX], n2, rfl, ?_, by rw [HG2.out]⟩
                        rw [HG2.out] at hA
                        rw [HG2.out]
                        have hEa := HEa.out
                        rw [← HXL.out] at hEa
                        exact HQa.out.putF hEa hA
                      · have HNEG := hidden hneg
                        go_wp2_with fail
                        go_meet
                        rw [HCL.out, if_neg HX0.out, if_neg (by have := HNEG.out; omega), HG2.out]
                        exact ⟨ws', fi, rfl, HM10.out.1, rfl⟩
                  case rest =>
                    obtain ⟨ws2, x, hx, hQ2, hrow⟩ := hcut
                    subst hx
                    obtain ⟨G', hG'⟩ : ∃ G', G' = (rowS (goN N) k F (c + 1)).1 := ⟨_, rfl⟩
                    have HG' := hidden hG'
                    rw [← hG'] at hQ2
                    obtain ⟨f2, e2, hf2⟩ := hQ2.found.form
                    subst hf2
                    obtain ⟨g2, hg2⟩ : ∃ n, n = G'.length := ⟨_, rfl⟩
                    have HGL := hidden hg2
                    rw [← hg2]
                    have HQ2 := hidden hQ2
                    have HROW := hidden hrow
                    clear hQ2 hrow hg2 hG' HM10 HCL HFI HFL
                    by_cases ho : M < g2
                    · have hoi : most < (g2 : Int) := by have := HM.out; omega
                      have HO := hidden ho
                      clear ho
                      have HE := hidden (show errB N most = 16 by
                        unfold errB
                        have h3 : (most.toNat : Nat) = M := by have := HM.out; omega
                        rw [if_neg (by simp [HRT.out]), if_neg (by omega), h3, if_pos]
                        have hk' : k < (outS (goN N) (tokenM N) (widN N) k).1.length := by
                          have h4 := HFe.out
                          unfold machS at h4
                          rw [← h4, ← HNe.out]; exact hlt
                        have hov := outS_over (goN N) (tokenM N) (widN N) (i := k) (m := M) (c := c + 1) (by omega) hk' (by have := HWq.out; omega) (by
                          have h4 := HFe.out
                          unfold machS at h4
                          rw [← h4, ← HG'.out, ← HGL.out]; exact HO.out)
                        have hov' : M < fndN N M := hov
                        have := HM.out
                        omega)
                      go_wp2_with (first
                        | (refine store_dfa rfl (x := .tmp 4) (y := .tmp 86) rfl rfl rfl HQ2.out.r rfl rfl ?_; intro w12 hA2 hg2 hs2; have HA2 := hidden hA2; have HB2 := hidden (HBA.out.trans ((HQ2.out.below.mono (Nat.le_succ _)).grown hg2 (by have := HQ2.out.sz; omega) (by intro k hk; simp only [Option.some.injEq] at hk; omega))); clear hA2 hg2)
                        | fail)
                      exact ret_dfa3 Tryz.results10 rfl rfl rfl rfl HA2.out (retB_none HE.out (by decide) HB2.out)
                    · have hoi : (g2 : Int) ≤ most := by have := HM.out; omega
                      have HO := hidden ho
                      clear ho
                      have hal3 : Below wc.heap.size wc (wc.alloc (.cells #[.int .i64 x] 3)) := (Below.refl wc.heap.size wc).alloc (Nat.le_refl _) _
                      have HQc := hidden (HQ2.out.kept hal3)
                      have hown := HQc.out.rowR
                      have hown' : (wc.alloc (.cells #[.int .i64 x] 3)).ownsRow (w.heap.size + 1) 3 1 (.slice ra r2 rc) r2 (R.map (Value.int .i64)) := by rw [HR2.out]; exact hown
                      have HOW := hidden hown'
                      have HI := hidden infoInt
                      have HBS := hidden HQc.out.sz
                      have HRL := hidden (show r2 = c by
                        have h5 : k < F.length := by rw [← HNe.out]; exact hlt
                        have hok := outS_ok (goN N) (tokenM N) (widN N) k (by have h4 := HFe.out; unfold machS at h4; rw [← h4]; omega)
                        have h6 := HFe.out
                        unfold machS at h6
                        have h7 := (rowS_ok (goN N) (i := k) (F := F) (by rw [h6]; exact hok.1) h5 c).2.1
                        rw [HR2.out, HR.out]; exact h7)
                      have HLN := hidden (show r2 + 1 ≤ 1000000 by have := HRL.out; have := HWD.out; have := HWq.out; omega)
                      clear hown hown' hal3
                      go_wp2_with (at_builtin; (first | refine wpList_app (v := .slice ra r2 rc) rfl _ _ rfl HI.out Tryz.underlying23 rfl (by decide) (by decide) rfl HOW.out rfl (Src.one wc (.int .i64 x) 3 _ rfl) (by simp) (by simp [Value.oneCell']) HLN.out HBS.out ?_ | refine wp_app (v := .slice ra r2 rc) _ _ rfl HI.out Tryz.underlying23 rfl (by decide) (by decide) rfl HOW.out rfl (Src.one wc (.int .i64 x) 3 _ rfl) (by simp) (by simp [Value.oneCell']) HLN.out HBS.out ?_); intro v13 w13 hA; have HA13 := hidden hA; obtain ⟨a13, c13, hv13⟩ := row_slice14 hA.own; subst hv13; clear hA)
                      go_roundw
                      case rel =>
                        refine ⟨c + 1, ws2, by have := HWq.out; omega, by go_num, ?_, ?_⟩
                        · rw [← HG'.out, ← HGL.out]; have := HO.out; omega
                        · rw [← HG'.out, HROW.out, HGL.out]
                          have hA := HA13.out
                          have hQ := HQc.out
                          rw [HR2.out] at hA ⊢
                          exact hQ.putR hA
                      case measure => (have := HWq.out; show widN N - ((c : Int) + 1).toNat < widN N - (c : Int).toNat; omega)
            · have hcW : c = W := by omega
              obtain ⟨hD, hE⟩ := HQ.out.dropR
              obtain ⟨an, cn, hvn⟩ := hD.nexts.form
              have hmem := hD.off (r := ⟨23, 1, vn, (machS N k).2.1.length, us⟩) (by simp [rows4])
              subst hvn
              obtain ⟨al2, cl2, hvl2⟩ := hD.rowL.form
              subst hvl2
              have hkF : k < F.length := by rw [← HNe.out]; exact hlt
              have hlen := outS_lens (goN N) (tokenM N) (widN N) k (by have h4 := HFe.out; unfold machS at h4; rw [← h4]; omega)
              have HLEN := hidden (show (machS N k).2.1.length + 1 ≤ 1000000 ∧ (machS N k).2.2.length + 1 ≤ 1000000 by
                have e1 : (machS N k).2.1.length = k := hlen.1
                have e2 : (machS N k).2.2.length = k := hlen.2
                have := HMM.out
                omega)
              have hal := (Below.refl wr.heap.size wr).alloc (Nat.le_refl _) (.cells #[.slice ra r2 rc] 23)
              have HDa := hidden (hD.kept hal)
              have hEa := hE.mono (StayR.below hal)
              rw [← HR2.out] at hEa
              have HEa := hidden hEa
              have HBS := hidden HDa.out.sz
              have HI := hidden infoZZ
              have k2 := hD.d.next
              have HMEM := hidden hmem
              clear hD hE hal hEa hmem hlen
              go_wp2_with (at_builtin; (first | refine wpList_app (v := .slice an (machS N k).2.1.length cn) rfl _ _ rfl HI.out Tryz.underlying25 rfl (by decide) (by decide) rfl HDa.out.rowN rfl (Src.one wr (.slice ra r2 rc) 23 _ rfl) (by simp) (by simp [Value.oneCell']) HLEN.out.1 HBS.out ?_ | refine wp_app (v := .slice an (machS N k).2.1.length cn) _ _ rfl HI.out Tryz.underlying25 rfl (by decide) (by decide) rfl HDa.out.rowN rfl (Src.one wr (.slice ra r2 rc) 23 _ rfl) (by simp) (by simp [Value.oneCell']) HLEN.out.1 HBS.out ?_); intro v13 w13 hA; have HA13 := hidden hA; have HD13 := hidden (HDa.out.d.grown hA.grown HMEM.out.2); have r4 := HD13.out.next; have hf9 := HD13.out.frozen 257; obtain ⟨a13, c13, hv13⟩ := row_slice14 hA.own; subst hv13; clear hA)
              have HSN := hidden (DfSt.putN (t := R) HDa.out HEa.out HA13.out)
              clear r4 hf9 k2
              generalize w13.setCell ⟨w1.heap.size, 257, none⟩ (.slice a13 ((machS N k).2.1.length + 1) c13) = w14 at *
              have HSd := hidden (HSN.out.kept (w' := w14.drew) (Below.refl _ _).drew)
              obtain ⟨m0, m1, m2, m3, m4⟩ := HBX.out _ HSd.out.below
              have hfd := HSd.out.found
              rw [← HG2.out] at hfd
              have hFG : F <+: G := by rw [HG.out]; exact rowS_pre (goN N) k F (Nat.zero_le c)
              have hnn : n ≤ n2 := by have := hFG.length_le; have := HNe.out; have := HG2.out; omega
              obtain ⟨fb, fo, a8, c8, hfa, _, hfc, hrd⟩ := RdZZ.at hfd (Below.refl _ _) k (by have := HG2.out; omega)
              subst hfa
              have hl9 : (G.getD k []).length ≤ 900 := by
                rw [pre_getD hFG hkF []]
                have hin : F.getD k [] ∈ F := by
                  rw [List.getD_eq_getElem?_getD, List.getElem?_eq_getElem hkF]
                  exact List.getElem_mem _
                rw [HFe.out] at hin ⊢
                refine outS_all (goN N) (tokenM N) (widN N) (P := fun l => l.length ≤ 900) (by simp) (fun i l c => ?_) k _ hin
                show (goN N i l c).length ≤ 900
                unfold goN
                split
                · rw [spI_len]; exact Nat.le_trans (startM_len N _) HN9.out
                · rw [spI_len]; exact Nat.le_trans (stepM_len N _ _) HN9.out
              have HMK := hidden (show machS N (k + 1) = (G, (machS N k).2.1 ++ [R], (machS N k).2.2 ++ [tokenM N (G.getD k [])]) by
                have h4 := HFe.out
                have h5 : k < (outS (goN N) (tokenM N) (widN N) k).1.length := by
                  unfold machS at h4
                  rw [← h4]; exact hkF
                have h6 := outS_more (goN N) (tokenM N) (widN N) h5
                have h7 : c = widN N := hcW.trans HWq.out
                show outS (goN N) (tokenM N) (widN N) (k + 1) = _
                rw [h6]
                have h8 : (outS (goN N) (tokenM N) (widN N) k).1 = F := h4.symm
                rw [h8, show rowS (goN N) k F (widN N) = rowS (goN N) k F c by rw [h7], ← HG.out, ← HR.out]
                rfl)
              obtain ⟨T, hT⟩ : ∃ T, T = G.getD k [] := ⟨_, rfl⟩
              rw [← hT] at hfc hrd hl9 HMK
              obtain ⟨tk, htk⟩ : ∃ x, x = tokenM N T := ⟨_, rfl⟩
              rw [← htk] at HMK
              have HTK := hidden htk
              have HRD := hidden hrd
              have HL9 := hidden hl9
              have HND := hidden (HNW.out _ HSd.out.below)
              have HI2 := hidden infoInt
              have l4 := HSd.out.d.label
              have hkn2 : (k : Int) < (n2 : Int) := by omega
              have hkF' := hidden hkF
              obtain ⟨LB, hLB⟩ : ∃ x, x = (machS N k).2.2 := ⟨_, rfl⟩
              obtain ⟨NX, hNX⟩ : ∃ x, x = (machS N k).2.1 := ⟨_, rfl⟩
              rw [← hLB] at HSd HMK HLEN l4
              rw [← hNX] at HSd HMK HLEN
              obtain ⟨lq, hlq⟩ : ∃ n, n = LB.length := ⟨_, rfl⟩
              obtain ⟨tl, htl⟩ : ∃ n, n = T.length := ⟨_, rfl⟩
              have HLQ9 := hidden (show lq + 1 ≤ 1000000 by rw [hlq]; exact HLEN.out.2)
              rw [← hlq] at HSd l4
              have HTL := hidden htl
              rw [← htl] at hfc HRD HL9
              have HLR := hidden (fun (w' : World) {us : List Value} {vn : Value} {F : List (List Int)} {fv : Value} {ws : List Value} {Nn : List (List Int)} {R : List Int} {rv : Value} (h : DfSt w0 (w.heap.size + 1) w' (w.heap.size + 1) w1.heap.size (clsN N) (widN N) vn (.slice al2 lq cl2) fv rv us ws Nn LB F R) => (show w'.ownsRow (w.heap.size + 1) 3 1 (.slice al2 lq cl2) lq (LB.map (Value.int .i64)) ∧ (Value.slice al2 lq cl2).ownBlock ≠ some w1.heap.size from by
                have h1 := h.rowL
                have h2 := h.off (r := ⟨3, 1, .slice al2 lq cl2, LB.length, LB.map (Value.int .i64)⟩) (by simp [rows4])
                unfold RowZ at h1
                rw [← hlq] at h1
                exact ⟨h1, h2.2⟩))
              have HLQ := hidden hlq
              clear hT htk hrd hl9 hfd hFG hkF HSN HA13 HD13 HDa HEa HBS hLB hNX hlq htl
              go_wp2_with fail
              go_region_law (first
                | (go_simp; refine (rToken_calls HND.out HRD.out (by have := HL9.out; have := HTL.out; omega)).mono ?_; rintro e w5 ⟨rfl, hb5⟩; rw [← HTK.out]; have hS5 := HSd.out.kept hb5; have hal5 : Below w5.heap.size w5 (w5.alloc (.cells #[.int .i64 tk] 3)) := (Below.refl w5.heap.size w5).alloc (Nat.le_refl _) _; have HS6 := hidden (hS5.kept hal5); have l5 := hS5.d.label; have l6 := HS6.out.d.label; have HB7 := hidden HS6.out.sz; clear hal5 hb5 hS5; dsimp only)
                | (refine step_app (v := .slice al2 lq cl2) rfl _ _ rfl HI2.out Tryz.underlying23 rfl (by decide) (by decide) rfl (HLR.out _ HS6.out).1 rfl (Src.one _ (.int .i64 tk) 3 _ rfl) (by simp) (by simp [Value.oneCell']) HLQ9.out HB7.out ?_; intro v9 w9 hA9; have HA9 := hidden hA9; have HD9 := hidden (HS6.out.d.grown hA9.grown (HLR.out _ HS6.out).2); have r4 := HD9.out.label; have hf9 := HD9.out.frozen 258; obtain ⟨a9, c9, hv9⟩ := row_slice14 hA9.own; subst hv9; clear hA9))
              all_goals (have hS6 := HS6.out; have hA9 := HA9.out; rw [HLQ.out] at hS6 hA9; have hS := DfSt.putL hS6 hA9; rw [← HLQ.out] at hS; have HSF := hidden hS; clear hS hS6 hA9)
              all_goals (have HHK := hidden (show k + 1 ≤ G.length ∧ G.length ≤ M by have := HG2.out; omega))
              all_goals (clear HS6 HA9 HTK HRD HL9 HTL HLR HLQ HLEN HND HI2 HB7 HD9 HSd HQ)
              all_goals (clear m0 m1 m2 m3 m4 l4 l5 l6 r4 hf9 hfc hkn2 hnn k1 hcM)
              all_goals go_wp2_with fail
              all_goals go_roundw
              all_goals first
                | (have := HHK.out; show M + 1 - ((k : Int) + 1).toNat < M + 1 - (k : Int).toNat; omega)
                | (rw [HG2.out]; exact ⟨k + 1, _, _, _, _, by rw [HMK.out]; exact HHK.out.1, by rw [HMK.out]; exact HHK.out.2, by go_num, by rw [HMK.out]; exact HSF.out⟩)
        · have hkn : k = n := by omega
          obtain ⟨an, cn, hvn⟩ := HS.out.nexts.form
          subst hvn
          obtain ⟨al, cl, hvl⟩ := HS.out.rowL.form
          subst hvl
          have HBT := hidden (built HRT.out HM.out h1 h2 (k := k) (by rw [← HFe.out, ← HNe.out, hkn]) (by omega))
          have HD := hidden HS.out.d
          have HR' := hidden HS.out.r
          go_wp2_with (first
            | (refine load_dfa rfl (x := .tmp 7) rfl rfl HD.out ?_)
            | (refine wp_load_any (x := .tmp 7) rfl rfl (run_load_dfa HD.out) ?_)
            | (refine store_dfa rfl (x := .tmp 4) (y := .tmp 108) rfl rfl rfl HR'.out rfl rfl ?_; intro w12 hA2 hg2 hs2; have HA2 := hidden hA2; have HG2 := hidden hg2; have HB2 := hidden (HBA.out.trans ((HS.out.below.mono (Nat.le_succ _)).grown hg2 (by have := HS.out.sz; omega) (by intro k hk; simp only [Option.some.injEq] at hk; omega))); clear hA2 hg2)
            | fail)
          subst hkn
          exact ret_dfa3 Tryz.results10 rfl rfl rfl rfl HA2.out (retB_done HS.out HG2.out HB2.out HBT.out)
end Go.Proofs.YtmpjjnjggihojaaGreatDoor

/- The law of regions that draw their order, operation by operation, where an operation without an answer (a store) leaves something, too, and edges of other orders than the chosen one lead anywhere. -/
namespace Go.Proofs.YtmpjjnjggihojaaGreatDoor.Rl
open Go.RowKit

section
variable {R : World → World → Prop} {P : Program} {ops : Array Oper} {Q : Exit → Act → World → Prop} {T : Nat → Value → World → Prop} {W : World → Prop} {a0 : Act}

/-- what an operation leaves -/
def LeavesH (R : World → World → Prop) (T : Nat → Value → World → Prop) (W : World → Prop) (j : Nat) (o : Oper) (a : Act) (w : World) (a' : Act) (w' : World) : Prop :=
  ∃ v, a' = a.put o.dst v ∧ T j v w' ∧ W w' ∧ R w w'

structure MidH (ops : Array Oper) (T : Nat → Value → World → Prop) (W : World → Prop) (a0 : Act) (listed : Array Bool) (a : Act) (w : World) : Prop where
  still : Still ops a0 a
  done : ∀ j d, listed.getD j true = true → (ops[j]?).bind (·.dst) = some d → T j (a.tmps.getD d undef) w
  world : W w
  gh : ∀ j, j < ops.size → listed.getD j true = true → ∃ v, T j v w

def wellOrderedH (ops : Array Oper) (n : Nat) : Bool :=
  (List.range ops.size).all fun j => match ops[j]? with
    | none => true
    | some o => (o.after.all fun e => !Region.binds .any e || decide (e.on < j)) && (match o.dst with
      | none => true
      | some d => decide (d < n) && (List.range ops.size).all fun i => i == j || (ops[i]?).bind (·.dst) != some d)

theorem ready_of_missingH {listed : Array Bool} (hw : wellOrderedH ops a0.tmps.size = true) : ∀ n, n ≤ ops.size → Region.ready .any ops listed = [] → ∀ j, j < n → listed.getD j true = true := by
  intro n
  induction n with
  | zero => intro _ _ j hj; omega
  | succ n ih =>
    intro hn hr j hj
    have ih := ih (by omega) hr
    by_cases e : j = n
    · subst e
      by_cases hl : listed.getD j true = true
      · exact hl
      · exfalso
        have : j ∈ Region.ready .any ops listed := by
          unfold Region.ready
          refine List.mem_filter.2 ⟨List.mem_range.2 (by omega), ?_⟩
          have ho := Array.getElem?_eq_getElem (xs := ops) (i := j) (by omega)
          have hl' : listed.getD j true = false := by simpa using hl
          rw [hl', ho]
          simp only [Bool.not_false, Bool.true_and, Option.map_some, Option.getD_some]
          rw [Array.all_eq_true_iff_forall_mem]
          intro ed hed
          have hwj := List.all_eq_true.1 hw j (List.mem_range.2 (by omega))
          rw [ho] at hwj
          simp only [Bool.and_eq_true] at hwj
          have hor := Array.all_eq_true_iff_forall_mem.1 hwj.1 ed hed
          cases hbd : Region.binds .any ed
          · rfl
          rw [hbd, Bool.not_true, Bool.false_or] at hor
          have hlt := of_decide_eq_true hor
          have h1 := ih ed.on hlt
          have : listed.getD ed.on false = true := by
            rcases Nat.lt_or_ge ed.on listed.size with h2 | h2
            · simp only [Array.getD_eq_getD_getElem?, Array.getElem?_eq_getElem h2, Option.getD_some] at h1 ⊢
              exact h1
            · have h3 : listed.getD j true = true := by simp [Array.getD_eq_getD_getElem?, Array.getElem?_eq_none (show listed.size ≤ j by omega)]
              rw [h3] at hl'
              cases hl'
          rw [this]
          simp
        rw [hr] at this
        cases this
    · exact ih j (by omega)

theorem typed_soundH (hw : wellOrderedH ops a0.tmps.size = true)
    (hT : ∀ j v w w', T j v w → R w w' → T j v w')
    (step : ∀ j o, ops[j]? = some o → ∀ a w, Still ops a0 a → Ahead ops T o a w → W w → wpOp P ops Q j (LeavesH R T W j o a w) a w)
    (fin : ∀ a w, Still ops a0 a → (∀ j d, (ops[j]?).bind (·.dst) = some d → T j (a.tmps.getD d undef) w) → (∀ j, j < ops.size → ∃ v, T j v w) → W w → Q .normal a w) :
    ∀ (fuel : Nat) (listed : Array Bool) (a : Act) (w : World), missing ops listed ≤ fuel → listed.size = ops.size → MidH ops T W a0 listed a w → wpAny P .any ops Q fuel listed a w := by
  have finish : ∀ (listed : Array Bool) (a : Act) (w : World), listed.size = ops.size → MidH ops T W a0 listed a w → Region.ready .any ops listed = [] → Q .normal a w := fun listed a w hsz hm hr => by
    have hall := ready_of_missingH hw ops.size (Nat.le_refl _) hr
    refine fin a w hm.still (fun j d hd => hm.done j d ?_ hd) (fun j hj => hm.gh j hj (hall j hj)) hm.world
    rcases Nat.lt_or_ge j ops.size with h | h
    · exact hall j h
    · rw [Array.getElem?_eq_none h] at hd
      cases hd
  intro fuel
  induction fuel with
  | zero =>
    intro listed a w hmis hsz hm
    have hr : Region.ready .any ops listed = [] := by
      rw [Region.ready, List.filter_eq_nil_iff]
      intro i hi
      have h0 : missing ops listed = 0 := by omega
      unfold missing at h0
      rw [List.countP_eq_zero] at h0
      have := h0 i hi
      simp only [Bool.not_eq_true, Bool.not_eq_false'] at this
      rw [this]
      simp
    exact ⟨hr, finish listed a w hsz hm hr⟩
  | succ fuel ih =>
    intro listed a w hmis hsz hm
    refine ⟨finish listed a w hsz hm, fun i hi => ?_⟩
    unfold Region.ready at hi
    obtain ⟨hr1, hr2⟩ := List.mem_filter.1 hi
    have hin : i < ops.size := List.mem_range.1 hr1
    have ho := Array.getElem?_eq_getElem (xs := ops) (i := i) hin
    rw [ho] at hr2
    simp only [Option.map_some, Option.getD_some, Bool.and_eq_true, Bool.not_eq_true'] at hr2
    have hun : listed.getD i true = false := by simpa using hr2.1
    have hahead : Ahead ops T ops[i] a w := fun e he hb d hd => by
      have h1 := Array.all_eq_true_iff_forall_mem.1 hr2.2 e he
      rw [hb] at h1
      simp only [Bool.not_true, Bool.false_or] at h1
      refine hm.done e.on d ?_ hd
      rcases Nat.lt_or_ge e.on listed.size with h2 | h2
      · simp only [Array.getD_eq_getD_getElem?, Array.getElem?_eq_getElem h2, Option.getD_some] at h1 ⊢
        exact h1
      · simp [Array.getD_eq_getD_getElem?, Array.getElem?_eq_none h2]
    refine wpOp_mono (fun a' w' h => ?_) (step i ops[i] ho a w hm.still hahead hm.world)
    obtain ⟨v, rfl, hv, hW', hb⟩ := h
    have hwi := List.all_eq_true.1 hw i (List.mem_range.2 hin)
    rw [ho] at hwi
    simp only [Bool.and_eq_true] at hwi
    refine ih (listed.setIfInBounds i true) _ w' (by have := missing_set (ops := ops) hin hun; omega) (by simpa using hsz) ⟨⟨?_, ?_, ?_⟩, ?_, hW', fun j hjs hl => by
        rw [getD_set] at hl
        by_cases e : i = j
        · subst e; exact ⟨v, hv⟩
        · rw [if_neg e] at hl
          obtain ⟨u, hu⟩ := hm.gh j hjs hl
          exact ⟨u, hT j u w w' hu hb⟩⟩
    · rw [← hm.still.size]
      cases ops[i].dst <;> simp [Act.put]
    · rw [← hm.still.defers]
      cases ops[i].dst <;> rfl
    · intro d hd
      rw [← hm.still.slot d hd]
      have hne := Array.all_eq_true_iff_forall_mem.1 hd ops[i] (Array.getElem_mem hin)
      cases hx : ops[i].dst with
      | none => rfl
      | some x =>
        rw [hx] at hne
        have : x ≠ d := by simpa using hne
        simp [Act.put, Array.getD_eq_getD_getElem?, Array.getElem?_setIfInBounds_ne this]
    · intro j d hl hd
      rw [getD_set] at hl
      by_cases e : i = j
      · subst e
        rw [ho] at hd
        have hd : ops[i].dst = some d := hd
        have hlt : d < a.tmps.size := by
          rw [hd] at hwi
          simp only [Bool.and_eq_true] at hwi
          have := of_decide_eq_true hwi.2.1
          rw [hm.still.size]
          exact this
        have e2 : (a.put ops[i].dst v).tmps.getD d undef = v := by
          rw [hd]
          simp [Act.put, Array.getD_eq_getD_getElem?, hlt]
        rw [e2]
        exact hv
      · rw [if_neg e] at hl
        have h1 := hT j _ w w' (hm.done j d hl hd) hb
        have e2 : (a.put ops[i].dst v).tmps.getD d undef = a.tmps.getD d undef := by
          cases hx : ops[i].dst with
          | none => rfl
          | some x =>
            rw [hx] at hwi
            simp only [Bool.and_eq_true] at hwi
            have hj : j < ops.size := by
              rcases Nat.lt_or_ge j ops.size with h | h
              · exact h
              · rw [Array.getElem?_eq_none h] at hd
                cases hd
            have h2 := List.all_eq_true.1 hwi.2.2 j (List.mem_range.2 hj)
            rw [hd] at h2
            have : x ≠ d := by
              rintro rfl
              simp at h2
              exact e h2.symm
            simp [Act.put, Array.getD_eq_getD_getElem?, Array.getElem?_setIfInBounds_ne this]
        rw [e2]
        exact h1

/-- THE LAW -/
theorem wp_region_typedH {id : Nat} {w : World} (T : Nat → Value → World → Prop) (W : World → Prop) (hm : P.follows .mixedOrders = true) (hw : wellOrderedH ops a0.tmps.size = true)
    (hT : ∀ j v w w', T j v w → R w w' → T j v w') (h0 : W w.drew)
    (step : ∀ j o, ops[j]? = some o → ∀ a w, Still ops a0 a → Ahead ops T o a w → W w → wpOp P ops Q j (LeavesH R T W j o a w) a w)
    (fin : ∀ a w, Still ops a0 a → (∀ j d, (ops[j]?).bind (·.dst) = some d → T j (a.tmps.getD d undef) w) → (∀ j, j < ops.size → ∃ v, T j v w) → W w → Q .normal a w) :
    (Code.region id ops true).wp P Q a0 w := by
  refine wp_region_any hm (typed_soundH hw hT step fin ops.size _ a0 w.drew ?_ (by simp) ⟨⟨rfl, rfl, fun _ _ => rfl⟩, fun j d hl hd => ?_, h0, fun j hj hl => ?_⟩)
  · unfold missing
    exact Nat.le_trans List.countP_le_length (by simp)
  · exfalso
    rcases Nat.lt_or_ge j ops.size with h | h
    · simp [Array.getD_eq_getD_getElem?, h] at hl
    · rw [Array.getElem?_eq_none h] at hd
      cases hd
  · exfalso
    simp [Array.getD_eq_getD_getElem?, hj] at hl

theorem does_wpOpH {j : Nat} {o : Oper} {ρ : Tmp → Value} {a : Act} {w : World} (hi : ops[j]? = some o) (hsel : ∀ cs b, o.op ≠ .select cs b) (hr : ∀ t ∈ reads o, a.tmps.getD t undef = ρ t)
    (hg : Region.wanted o (yielded ops a.tmps) = true) (h : Does P o ρ w fun v w' => T j v w' ∧ W w' ∧ R w w') : wpOp P ops Q j (LeavesH R T W j o a w) a w := by
  have he : execOp a.eval o = execOp (evalR ρ) o := execOp_congr o hsel fun x hx => by
    cases x with
    | tmp t => exact hr t (List.mem_filterMap.2 ⟨.tmp t, by simpa using hx, rfl⟩)
    | _ => rfl
  unfold wpOp
  simp only [hi, hg, if_true]
  refine .inl ?_
  unfold Oper.wp Does at *
  rw [he]
  generalize (execOp (evalR ρ) o).run P w = r at *
  cases r with
  | ok n w' =>
    cases n <;> simp only [Oper.upon] at h ⊢
    case value v => exact ⟨v, rfl, h.1, h.2.1, h.2.2⟩
    case skip => exact ⟨undef, rfl, h.1, h.2.1, h.2.2⟩
    case enter f args =>
      refine Calls.mono h fun e w'' he => ?_
      obtain ⟨v, rfl, h1, h2, h3⟩ := he
      exact ⟨v, rfl, h1, h2, h3⟩
  | halt x w' => exact h.elim

/-- THE LAW, operation by operation -/
theorem wp_region_stepsH {id : Nat} {w : World} (T : Nat → Value → World → Prop) (W : World → Prop) (hm : P.follows .mixedOrders = true) (hw : wellOrderedH ops a0.tmps.size = true) (hcov : covered ops = true) (hs : Region.noSelect ops = true)
    (hT : ∀ j v w w', T j v w → R w w' → T j v w') (h0 : W w.drew)
    (gs : List Nat) (hguard : ops.all (fun o => match o.guard with
      | none => true
      | some (g, b) => b && gs.contains g) = true)
    (htrue : ∀ g ∈ gs, ∀ v w, T g v w → v = .bool true)
    (steps : Steps (StepOk R P ops a0 T W) 0 ops.toList)
    (fin : ∀ a w, Still ops a0 a → (∀ j d, (ops[j]?).bind (·.dst) = some d → T j (a.tmps.getD d undef) w) → (∀ j, j < ops.size → ∃ v, T j v w) → W w → Q .normal a w) :
    (Code.region id ops true).wp P Q a0 w := by
  refine wp_region_typedH T W hm hw hT h0 (fun j o ho a w1 hst ha hW => ?_) fin
  have hc := Array.all_eq_true_iff_forall_mem.1 hcov o (Array.mem_of_getElem? ho)
  simp only [Bool.and_eq_true] at hc
  have wait : ∀ i d, waits o i = true → (ops[i]?).bind (·.dst) = some d → T i (a.tmps.getD d undef) w1 := fun i d hwt hd => by
    unfold waits at hwt
    obtain ⟨e, he, h1⟩ := Array.any_eq_true'.1 hwt
    simp only [Bool.and_eq_true, beq_iff_eq] at h1
    obtain ⟨rfl, h2⟩ := h1
    exact ha e he h2 d hd
  have hst1 := steps.at j o (by simpa using ho)
  rw [Nat.zero_add] at hst1
  refine does_wpOpH ho (fun cs b => Region.noSelect_spec hs j o cs b ho) (ρ := fun t => a.tmps.getD t undef) (fun t _ => rfl) ?_ (hst1 _ w1 (fun t ht => ?_) hW)
  · unfold Region.wanted
    cases hgd : o.guard with
    | none => rfl
    | some gb =>
      obtain ⟨g, b⟩ := gb
      have hb := Array.all_eq_true_iff_forall_mem.1 hguard o (Array.mem_of_getElem? ho)
      rw [hgd] at hb
      have hb : (b && gs.contains g) = true := hb
      simp only [Bool.and_eq_true] at hb
      obtain ⟨rfl, hgs⟩ := hb
      have hc2 := hc.2
      rw [hgd] at hc2
      simp only [Bool.and_eq_true] at hc2
      obtain ⟨d, hd⟩ := Option.isSome_iff_exists.1 hc2.2
      have hv := htrue g (by simpa using hgs) _ _ (wait g d hc2.1 hd)
      have : yielded ops a.tmps g = some true := by
        unfold yielded
        rw [hd]
        simp only [Option.bind_some]
        rcases Nat.lt_or_ge d a.tmps.size with h | h
        · simp only [Array.getD_eq_getD_getElem?, Array.getElem?_eq_getElem h, Option.getD_some] at hv
          rw [Array.getElem?_eq_getElem h, hv]
        · simp only [Array.getD_eq_getD_getElem?, Array.getElem?_eq_none h, Option.getD_none] at hv
          cases hv
      show (yielded ops a.tmps g == some true) = true
      rw [this]
      rfl
  · have h1 := List.all_eq_true.1 hc.1 t ht
    unfold Fact
    cases hsrc : srcOf ops t with
    | none =>
      refine hst.slot t ?_
      rw [Array.all_eq_true_iff_forall_mem]
      intro o' ho'
      obtain ⟨i, hi, rfl⟩ := Array.mem_iff_getElem.1 ho'
      unfold srcOf at hsrc
      have := List.find?_eq_none.1 hsrc i (List.mem_range.2 hi)
      rw [Array.getElem?_eq_getElem hi] at this
      simpa using this
    | some i =>
      rw [hsrc] at h1
      refine wait i t h1 ?_
      unfold srcOf at hsrc
      simpa using List.find?_some hsrc

/-! ### what a slot holds, as a list over the region's operations -/
end
end Go.Proofs.YtmpjjnjggihojaaGreatDoor.Rl

/- Contract of the program's build. -/
namespace Go.Proofs.YtmpjjnjggihojaaGreatDoor
open Go.RowKit Go.Lib Go.Joins Go.Maps

theorem sets_netP {w : World} {a : Option Addr} {n c : Nat} {N : NetM} (h : RdS w.heap.size w (.slice a n c) N.sets) (hw : ∀ s ∈ N.sets, s.wide) (hn : n = N.sets.length) : Sets w a n (N.sets.map bitsE) := by
  subst hn
  refine ⟨by simp, fun hp => ?_⟩
  obtain ⟨a', cap, e, _, _, _, h4⟩ := h
  simp only [Value.slice.injEq] at e
  obtain ⟨rfl, _, _⟩ := e
  obtain ⟨b, off, e, hb, hc⟩ := h4 hp
  refine ⟨b, off, e, hb, fun i hi j hj => ?_⟩
  obtain ⟨x0, x1, x2, x3⟩ := hc i hi
  have hg : (N.sets.map bitsE).getD i fNone = bitsE (N.sets.getD i default) := by simp [List.getD_eq_getElem?_getD, hi]
  have hwd : (N.sets.getD i default).wide := hw _ (by rw [List.getD_eq_getElem?_getD, List.getElem?_eq_getElem hi]; exact List.getElem_mem hi)
  obtain ⟨m0, m1, m2, m3⟩ := bitsE_words hwd
  rw [hg]
  match j, hj with
  | 0, _ => rw [m0]; exact x0
  | 1, _ => rw [m1]; exact x1
  | 2, _ => rw [m2]; exact x2
  | 3, _ => rw [m3]; exact x3
theorem load_anyP {ops : Array Oper} {rest : List Oper} {o : Oper} {a : Act} {w : World} {Q : Exit → Act → World → Prop} (hgd : o.guard = none) {t : TypeId} {x : Operand} {p : Addr} {v : Value} (ho : o.op = .load t x) (hx : a.eval x = .pointer (some p))
    (hl : (loadVar t p).run Tryz.prog w = .ok v w) (h : wpList Tryz.prog ops Q rest (a.put o.dst v) w) : wpList Tryz.prog ops Q (o :: rest) a w :=
  wpList_plain hgd fun _ hK => by
    unfold Oper.wp execOp
    simp only [ho, hx, Instr.loadAt, Instr.sureAddr, Sem.run_bind, Sem.run_pure, Result.andThen_ok, hl]
    exact hK _ _ h
attribute [local go_sem] Rl.evalR_tmp Rl.evalR_const Rl.evalR_global Rl.evalR_func
theorem does_load_dfa {o : Oper} {ρ : Tmp → Value} {w : World} {Kv : Value → World → Prop} {x : Tmp} {B : Nat} {g : Nat → Nat} {wd : Int} {vn vl : Value} (ho : o.op = .load 32 (.tmp x)) (hx : ρ x = .pointer (some ⟨B, 0, none⟩)) (hA : DfaAt w B g wd vn vl) (h : Kv (dfaA g wd vn vl) w) : Rl.Does Tryz.prog o ρ w Kv := by
  have hl := run_load_dfa hA
  unfold Rl.Does execOp
  simp only [ho, Rl.evalR_tmp, hx, Instr.loadAt, Instr.sureAddr, Sem.run_bind, Sem.run_pure, Result.andThen_ok, hl]
  exact h
theorem does_store_dfa {o : Oper} {ρ : Tmp → Value} {w : World} {Kv : Value → World → Prop} {x y : Tmp} {B : Nat} {g h : Nat → Nat} {wd wd' : Int} {vn vl vn' vl' : Value} (ho : o.op = .store 32 (.tmp x) (.tmp y)) (hx : ρ x = .pointer (some ⟨B, 0, none⟩)) (hy : ρ y = dfaA h wd' vn' vl') (hA : DfaAt w B g wd vn vl) (h1 : vn'.oneCell' = true) (h2 : vl'.oneCell' = true)
    (hk : ∀ w', DfaAt w' B h wd' vn' vl' → w.grownBy w' (some B) → Kv undef w') : Rl.Does Tryz.prog o ρ w Kv := by
  have hst := run_storeVar_row (P := Tryz.prog) w B 32 32 _ (dfaC h wd' vn' vl') hA (by rw [dfaC_size]; exact size_dfa) (by rw [dfaC_size, dfaC_size]) (dfaC_one h wd' h1 h2)
  unfold Rl.Does execOp
  simp only [ho, Rl.evalR_tmp, hx, hy, Instr.storeAt, Instr.sureAddr, Sem.run_bind, Sem.run_pure, Result.andThen_ok, hst]
  exact hk _ (setRow_heap w B _ _ _ _ hA) ⟨rfl, rfl, rfl, by simp, fun k _ hne => setRow_other w B k _ (by simpa using hne)⟩
/-- the result's block may be written; once it holds the machine it holds it -/
def R19 (RB : Nat) (g : Nat → Nat) (wd : Int) (vn vl : Value) (w1 w2 : World) : Prop := But w1.heap.size (fun k => k = RB) w1 w2 ∧ (DfaAt w1 RB g wd vn vl → DfaAt w2 RB g wd vn vl)
def W19 (RB : Nat) (w w1 : World) : Prop := But w.heap.size (fun k => k = RB) w w1 ∧ ∃ g wd vn vl, DfaAt w1 RB g wd vn vl
theorem r19_below {RB : Nat} {g : Nat → Nat} {wd : Int} {vn vl : Value} {w1 w2 : World} (hb : Below w1.heap.size w1 w2) : R19 RB g wd vn vl w1 w2 := ⟨But.of hb _, fun h => h.below hb⟩
theorem ret_dfa2 {fn : Func} {R : Ending → World → Prop} {a : Act} {w : World} {B p u : Nat} {g : Nat → Nat} {wd : Int} {vn vl x : Value} (hf : fn.results = #[.cell p 32, .tmp u]) (hp : a.tmps.getD p undef = .pointer (some ⟨B, 0, none⟩))
    (hu : a.tmps.getD u undef = x) (hd : a.defers = []) (hA : DfaAt w B g wd vn vl) (hR : R (.returned (.tuple #[dfaA g wd vn vl, x])) w) : bodyPost Tryz.prog fn R .ret a w := by
  have hl := run_load_dfa hA
  refine bodyPost_ret (v := .tuple #[dfaA g wd vn vl, x]) ?_ hd hR
  rw [results_cell_tmp hf, hp, hu]
  simp [asAddr, hl, Result.andThen]
theorem elR_reads {P : Nat → Prop} {w : World} {v : Value} {l : List Int} (h : ElR P w v l) (hP : ∀ k, P k → k < w.heap.size) : RdZ w.heap.size w v l := by
  obtain ⟨a, c, e, k1, k2, k3, k4⟩ := h
  exact ⟨a, c, e, k1, k2, k3, fun hp => by
    obtain ⟨b, off, e, hPb, hc⟩ := k4 hp
    exact ⟨b, off, e, hP b hPb, hc⟩⟩
theorem elR_form {P : Nat → Prop} {w : World} {v : Value} {l : List Int} (h : ElR P w v l) : ∃ a c, v = .slice a l.length c := by
  obtain ⟨a, c, rfl, _⟩ := h
  exact ⟨a, c, rfl⟩
/-- a list that was found, in memory -/
theorem Core.foundAt {X : Nat → Prop} {base : Nat} {w1 : World} {rs0 : List R5} {w : World} {vn vl fv rv : Value} {us ws : List Value} {N : List (List Int)} {L : List Int} {F : List (List Int)} {R : List Int} (h : Core X base w1 rs0 w vn vl fv rv us ws N L F R) {k : Nat} (hk : k < F.length) :
    ∃ fb fc a c, fv = .slice (some ⟨fb, 0, none⟩) F.length fc ∧ w.cell? ⟨fb, k, none⟩ = some (.slice a (F.getD k []).length c) ∧ ElR (FarR w X (rows4 vn vl fv rv us ws N L F R)) w (.slice a (F.getD k []).length c) (F.getD k []) := by
  have hr := h.rowF
  obtain ⟨hlen, hel⟩ := h.elF
  rcases hr.2 with ⟨_, h0⟩ | ⟨g, cap, cur, hv, _⟩
  · omega
  · have he := hel k hk
    obtain ⟨a, c, hf⟩ := elR_form he
    refine ⟨g, cap, a, c, hv, ?_, hf ▸ he⟩
    have hc := World.ownsRow.cellAt (hv ▸ hr) k (by omega)
    rw [hc, ← hf, List.getD_eq_getElem?_getD, List.getElem?_eq_getElem (by omega)]
    rfl
theorem PathR.now {G : Nat → Prop} {e0 P CB BF SB : Nat} {w w' : World} {vs vo vl vf v1 b1 : Value} {us : Nat → Value} {K : Nat → List Nat} {N : NetM} (h : PathR G e0 w P CB BF SB vs vo vl vf v1 b1 us K N) (hk : ∀ k, G k → w'.heap[k]? = w.heap[k]?) (hn : RdNet e0 w' vs vo vl vf v1 N) : PathR G e0 w' P CB BF SB vs vo vl vf v1 b1 us K N :=
  ⟨(hk P h.far.1).trans h.obj, hn, h.bare.at (hk BF h.far.2.1), h.first.mono fun k hg => ⟨hg, hk k hg⟩, h.cls.at (hk CB h.far.2.2.1), fun q hq => (h.el q hq).mono fun k hg => ⟨hg, hk k hg⟩, h.far, h.low⟩
/-- the lists that are found are lists of spots -/
theorem goN_rng {N : NetM} (hR : rightB N = true) (i : Nat) (l : List Int) (c : Nat) : (goN N i l c).length ≤ N.sets.length ∧ ∀ x ∈ goN N i l c, 0 ≤ x ∧ x < (N.sets.length : Int) := by
  obtain ⟨hu, hr⟩ := nxt_up hR i l
  rw [← nxt_go hR i l c]
  exact ⟨Nat.le_trans (List.length_filter_le _ _) (nodup_len (hu.imp fun h => by omega) hr), fun x hx => hr x (List.mem_filter.1 hx).1⟩
theorem clsS_pair (go : Nat → List Int → Nat → List Int) (i : Nat) (G : List (List Int)) (R : List Int) (c : Nat) {X : List Int} (hX : go i (G.getD i []) c = X) :
    clsS go i (G, R) c = (if X = [] then G else if findI X G 0 < 0 then G ++ [X] else G, R ++ [if X = [] then -1 else if findI X G 0 < 0 then (G.length : Int) else findI X G 0]) := by
  unfold clsS
  simp only [hX]
  split
  · rfl
  · split <;> rfl
/-- what the machine's rows read as wherever what is new, the result's block aside, is as it was -/
theorem Bld.rd {e0 : Nat} {w0 : World} {N : NetM} {RB DB FB NB MB SB base : Nat} {w1 : World} {rs0 : List R5} {wr w' : World} {vn vl fv rv : Value} {us ws : List Value} {Nn : List (List Int)} {L : List Int} {F : List (List Int)} {R : List Int} {D : DataW Unit} {T : Nat → Int}
    (h : Bld e0 w0 N RB DB FB NB MB SB base w1 rs0 wr vn vl fv rv us ws Nn L F R D T) (hk : ∀ k, base ≤ k → k < wr.heap.size → k ≠ RB → w'.heap[k]? = wr.heap[k]?) (hs : wr.heap.size ≤ w'.heap.size) : RdZZ w'.heap.size w' vn Nn ∧ RdZ w'.heap.size w' vl L := by
  have hk2 : ∀ j, FarN base wr (XP RB DB FB NB MB SB) (rows4 vn vl fv rv us ws Nn L F R) j → j < w'.heap.size ∧ w'.heap[j]? = wr.heap[j]? := fun j hj =>
    ⟨Nat.lt_of_lt_of_le hj.1.1 hs, hk j hj.2 hj.1.1 fun e => hj.1.2.1 (.inl e)⟩
  have own : ∀ r ∈ rows4 vn vl fv rv us ws Nn L F R, ∀ k, r.v.ownBlock = some k → w'.heap[k]? = wr.heap[k]? := fun r hr k e =>
    hk k (h.core.own.lt hr e).1 (h.core.own.lt hr e).2 fun e2 => h.core.own.out r hr k e (.inl e2)
  refine ⟨(h.core.elN.mono hk2).reads (ownsRow_same h.core.rowN (own ⟨23, 1, vn, Nn.length, us⟩ (by simp [rows4]))) fun _ hj => hj, ?_⟩
  have hL : RowZ w' base vl L := ownsRow_same h.core.rowL (own ⟨3, 1, vl, L.length, L.map (Value.int .i64)⟩ (by simp [rows4]))
  exact hL.reads
theorem Bld.ones {e0 : Nat} {w0 : World} {N : NetM} {RB DB FB NB MB SB base : Nat} {w1 : World} {rs0 : List R5} {wr : World} {vn vl fv rv : Value} {us ws : List Value} {Nn : List (List Int)} {L : List Int} {F : List (List Int)} {R : List Int} {D : DataW Unit} {T : Nat → Int}
    (h : Bld e0 w0 N RB DB FB NB MB SB base w1 rs0 wr vn vl fv rv us ws Nn L F R D T) : vn.oneCell' = true ∧ vl.oneCell' = true := by
  obtain ⟨a, c, rfl⟩ := row_slice14 h.core.rowN
  obtain ⟨a2, c2, rfl⟩ := row_slice14 h.core.rowL
  exact ⟨rfl, rfl⟩
/-- what build hands out -/
def RetQ (w : World) (N : NetM) (most : Int) (e : Ending) (w' : World) : Prop :=
  ∃ (g : Nat → Nat) (wd : Int) (vn vl : Value), e = .returned (.tuple #[dfaA g wd vn vl, .bool (decide (errB N most = 0))]) ∧ vn.oneCell' = true ∧ vl.oneCell' = true ∧ (errB N most = 0 → g = (machB N most).cls ∧ wd = (machB N most).width ∧ ∀ w2 : World, (∀ k, w.heap.size ≤ k → k < w'.heap.size → w2.heap[k]? = w'.heap[k]?) → w'.heap.size ≤ w2.heap.size → RdDfa w2.heap.size w2 vn vl (machB N most)) ∧ Below w.heap.size w w'
set_option maxHeartbeats 16000000 in
set_option maxRecDepth 100000 in
theorem pbuild_calls {w : World} {vs vo vl0 vf v1 : Value} {N : NetM} {most : Int} {M : Nat} (hM : (M : Int) = most) (hM1 : 1 ≤ M) (hM2 : M ≤ 4096) (h : RdNet w.heap.size w vs vo vl0 vf v1 N) (hw : ∀ s ∈ N.sets, s.wide) (hR : rightB N = true) (hn : N.sets.length ≤ 900) (hp : Pow w) :
    Calls Tryz.prog 26 #[.agg #[vs, vo, vl0, vf, v1], .int .i64 most] w (RetQ w N most) := by
  obtain ⟨sa, cs, rfl⟩ := h.sets.form
  have hba := (Below.refl w.heap.size w).alloc (Nat.le_refl _) (.cells #[.slice sa N.sets.length cs, vo, vl0, vf, v1] 27)
  have hbx := net_box w (.slice sa N.sets.length cs) vo vl0 vf v1 27
  obtain ⟨w0, hw0⟩ : ∃ w0, w0 = w.alloc (.cells #[.slice sa N.sets.length cs, vo, vl0, vf, v1] 27) := ⟨_, rfl⟩
  have hs0 : w0.heap.size = w.heap.size + 1 := by rw [hw0]; simp
  rw [← hw0] at hba hbx
  have HBA := hidden hba
  have HBX := hidden hbx
  have HW0 := hidden hw0
  have HS0 := hidden hs0
  have HN := hidden h
  have HW := hidden hw
  have HRT := hidden hR
  have HN9 := hidden hn
  have HPW := hidden hp
  have HM := hidden hM
  have hal := run_zero_dfa
  have hmm := @run_makeMap Tryz.prog
  obtain ⟨m0, m1, m2, m3, m4⟩ := HBX.out _ (((Below.refl (w.heap.size + 1) w0).alloc (Nat.le_of_eq hs0.symm) (.cells (dfaC zG 0 (.slice none 0 0) (.slice none 0 0)) 32)).alloc (by simp; omega) (.cells (dfaC zG 0 (.slice none 0 0) (.slice none 0 0)) 32))
  rw [hw0] at m0 m1 m2 m3 m4
  have HSN := hidden (sets_netP ((h.below ((hba.alloc (Nat.le_trans (Nat.le_succ _) (Nat.le_of_eq hs0.symm)) (.cells (dfaC zG 0 (.slice none 0 0) (.slice none 0 0)) 32)).alloc (by simp; omega) (.cells (dfaC zG 0 (.slice none 0 0) (.slice none 0 0)) 32)) (by simp; omega)).sets) hw rfl)
  rw [hw0] at HSN
  clear h hw hR hn hp hM hba hbx hw0 hs0
  go_enter Tryz.func26, Tryz.ntmps26
  go_wp2_with fail
  go_step3
  go_wp2_with fail
  refine (of_calls sa N.sets.length cs (N.sets.map bitsE) _ (by have := HN9.out; omega) HSN.out).mono ?_
  rintro e w3 ⟨rfl, hb3⟩
  rw [← HW0.out] at hb3
  have hz2 : ((w0.alloc (.cells (dfaC zG 0 (.slice none 0 0) (.slice none 0 0)) 32)).alloc (.cells (dfaC zG 0 (.slice none 0 0) (.slice none 0 0)) 32)).heap.size = w.heap.size + 3 := by simp [HS0.out]
  have HR3 := hidden (((DfaAt.newAt (g := zG) (wd := 0) (vn := .slice none 0 0) (vl := .slice none 0 0) HS0.out).alloc (.cells (dfaC zG 0 (.slice none 0 0) (.slice none 0 0)) 32)).below hb3)
  have HA3 := hidden ((DfaAt.newAt (w := w0.alloc (.cells (dfaC zG 0 (.slice none 0 0) (.slice none 0 0)) 32)) (B := w.heap.size + 2) (g := zG) (wd := 0) (vn := .slice none 0 0) (vl := .slice none 0 0) (by simp [HS0.out])).below hb3)
  have HB3 := hidden (show Below (w.heap.size + 1) w0 w3 from below_then (((Below.refl (w.heap.size + 1) w0).alloc (Nat.le_of_eq HS0.out.symm) _).alloc (by simp [HS0.out]) _) (by omega) hb3)
  have hz3 : w.heap.size + 3 ≤ w3.heap.size := by have := hb3.size; omega
  clear hb3 hz2 m0 m1 m2 m3 m4 HSN
  obtain ⟨DB, hDB⟩ : ∃ DB, DB = w.heap.size + 1 + 1 := ⟨_, rfl⟩
  have HDB := hidden (show DB = w.heap.size + 2 from hDB)
  rw [← HDB.out] at HA3
  rw [← hDB]
  clear hDB
  obtain ⟨m0, m1, m2, m3, m4⟩ := HBX.out _ HB3.out
  dsimp only
  go_upto_region 6 with (refine store_cls rfl (x := .tmp 21) (y := .tmp 19) rfl rfl rfl HA3.out ?_; intro w4 hA4 hg4 hs4; have HA4 := hidden hA4; have HR4 := hidden (HR3.out.grown hg4 (by have := HDB.out; simp only [ne_eq, Option.some.injEq]; omega)); have HB4 := hidden (HB3.out.grown hg4 (by have := HDB.out; omega) (by intro k hk; simp only [Option.some.injEq] at hk; have := HDB.out; omega)); have HS4 := hidden hs4; have k1 := hA4.width; have k2 := hA4.frozen 256; clear hA4 hg4 hs4 m0 m1 m2 m3 m4)
  rw [show clsK (keyL (List.map bitsE N.sets)) = clsN N from rfl, show cntK (keyL (List.map bitsE N.sets)) 256 = widN N from rfl]
  have hz4 : w.heap.size + 3 ≤ w4.heap.size := by have := HS4.out; omega
  obtain ⟨w5, hw5⟩ : ∃ w5, w5 = w4.setCell ⟨DB, 256, none⟩ (.int .i64 (widN N)) := ⟨_, rfl⟩
  have hs5 : w5.heap.size = w4.heap.size := by rw [hw5]; simp
  have HA5 := hidden (show DfaAt w5 DB (clsN N) (widN N) (.slice none 0 0) (.slice none 0 0) by rw [hw5]; exact HA4.out.putWidth _)
  have HR5 := hidden (show DfaAt w5 (w.heap.size + 1) zG 0 (.slice none 0 0) (.slice none 0 0) by rw [hw5]; exact HR4.out.put _ (by have := HDB.out; omega))
  have HB5 := hidden (show Below (w.heap.size + 1) w0 w5 by rw [hw5]; exact HB4.out.setCell (show w.heap.size + 1 ≤ DB by have := HDB.out; omega) _)
  rw [← hw5, ← hs5]
  rw [← hs5] at hz4
  clear hw5 k1 k2 HA4 HR4 HB4 HS4 HA3 HR3 HB3 hs5
  obtain ⟨w6, hw6⟩ : ∃ w6, w6 = (((w5.alloc (.cells #[.slice none 0 0] 23)).alloc (.cells #[.slice (some ⟨w5.heap.size, 0, none⟩) 1 1] 25)).alloc (.map #[] 0)).alloc (.cells #[.map (some (w5.heap.size + 1 + 1))] 81) := ⟨_, rfl⟩
  rw [← hw6]
  have hs6 : w6.heap.size = w5.heap.size + 4 := by rw [hw6]; simp
  have HB56 := hidden (show Below w5.heap.size w5 w6 by rw [hw6]; exact ((((Below.refl _ _).alloc (Nat.le_refl _) _).alloc (by simp) _).alloc (by simp; omega) _).alloc (by simp; omega) _)
  have HFL := hidden (show w6.heap[w5.heap.size]? = some (.cells #[.slice none 0 0] 23 (0, 0)) by
    rw [hw6]
    exact (heap_alloc_old _ _ (by simp; omega)).trans ((heap_alloc_old _ _ (by simp; omega)).trans ((heap_alloc_old _ _ (by simp)).trans (heap_alloc_new w5 _))))
  have HFB := hidden (show Boxed w6 (w5.heap.size + 1) 25 (.slice (some ⟨w5.heap.size, 0, none⟩) 1 1) by
    rw [hw6]
    exact (heap_alloc_old _ _ (by simp)).trans ((heap_alloc_old _ _ (by simp)).trans (heap_alloc_at (by simp) _ _)))
  have HMP := hidden (show w6.ownsMap (H := Unit) Tryz.prog 9 (plainElem Tryz.prog 3) (w5.heap.size + 2) 1 (.map []) by
    rw [hw6]
    have hmade := World.ownsMap_made (H := Unit) ((w5.alloc (.cells #[.slice none 0 0] 23)).alloc (.cells #[.slice (some ⟨w5.heap.size, 0, none⟩) 1 1] 25)) Tryz.prog 9 (plainElem Tryz.prog 3)
    rw [show ((w5.alloc (.cells #[.slice none 0 0] 23)).alloc (.cells #[.slice (some ⟨w5.heap.size, 0, none⟩) 1 1] 25)).heap.size = w5.heap.size + 2 by simp] at hmade
    exact (hmade.mono (Nat.zero_le _)).alloc _)
  have HNBX := hidden (show Boxed w6 (w5.heap.size + 3) 81 (.map (some (w5.heap.size + 2))) by
    rw [hw6]
    exact heap_alloc_at (by simp) _ _)
  have HB6 := hidden (below_then HB5.out (by omega) HB56.out)
  have HA6 := hidden (HA5.out.below HB56.out)
  have HR6 := hidden (HR5.out.below HB56.out)
  obtain ⟨FL, hFL⟩ : ∃ FL, FL = w5.heap.size := ⟨_, rfl⟩
  obtain ⟨FB, hFB⟩ : ∃ FB, FB = w5.heap.size + 1 := ⟨_, rfl⟩
  obtain ⟨NB, hNB⟩ : ∃ NB, NB = w5.heap.size + 1 + 1 + 1 := ⟨_, rfl⟩
  obtain ⟨MB, hMB⟩ : ∃ MB, MB = w5.heap.size + 1 + 1 := ⟨_, rfl⟩
  have HNUM := hidden (show FB = FL + 1 ∧ MB = FL + 2 ∧ NB = FL + 3 ∧ w6.heap.size = FL + 4 ∧ w.heap.size + 3 ≤ FL ∧ DB = w.heap.size + 2 from ⟨by omega, by omega, by omega, by omega, by omega, HDB.out⟩)
  rw [← hFL] at HFL
  rw [show w5.heap.size + 2 = MB by omega] at HMP HNBX
  rw [← hFB, ← hFL] at HFB
  rw [show w5.heap.size + 3 = NB by omega] at HNBX
  rw [← hNB, ← hMB, ← hFB, ← hFL]
  clear hw6 hs6 hFL hFB hNB hMB HA5 HR5 HB5 HB56 hmm hal HDB
  obtain ⟨m0, m1, m2, m3, m4⟩ := HBX.out _ HB6.out
  have k1 := HA6.out.width
  have HPO := hidden (show Calls Tryz.prog 54 #[.agg #[.slice sa N.sets.length cs, vo, vl0, vf, v1], ar (clsN N), .int .i64 (widN N)] w6 (RetPaths w.heap.size w6 (.slice sa N.sets.length cs) vo vl0 vf v1 N) from
    pathsOf_calls (by have := HNUM.out; omega) (HN.out.below (HBA.out.trans (HB6.out.mono (Nat.le_succ _))) (Nat.le_refl _)) HW.out HRT.out HN9.out)
  go_wp2_with (first
    | (refine load_anyP rfl (x := .tmp 27) rfl rfl (run_load_cls HA6.out) ?_)
    | (refine HPO.out.mono ?_; rintro e w7 ⟨P, CB, BF, SB, b1, us, rfl, hPR, hSE, hSB, hb7⟩; have HPR := hidden hPR; have HSE := hidden hSE; have HSB := hidden hSB; have HB7 := hidden hb7; clear hPR hSE hSB hb7; dsimp only)
    | fail)
  have hz7 : FL + 4 ≤ w7.heap.size := by have := HB7.out.size; have := HNUM.out; omega
  obtain ⟨base, hbase⟩ : ∃ b, b = w.heap.size + 1 := ⟨_, rfl⟩
  obtain ⟨RB, hRB⟩ : ∃ b, b = w.heap.size + 1 := ⟨_, rfl⟩
  have HIX := hidden (show base = w.heap.size + 1 ∧ RB = w.heap.size + 1 from ⟨hbase, hRB⟩)
  obtain ⟨RS0, hRS0⟩ : ∃ r, r = rows4 (.slice none 0 0) (.slice none 0 0) (.slice (some ⟨FL, 0, none⟩) 1 1) (.slice none 0 0) [] [.slice none 0 0] [] [] [[]] [] := ⟨_, rfl⟩
  have HB0 := hidden (show Below w.heap.size w w7 from below_then (HBA.out.trans (HB6.out.mono (Nat.le_succ _))) (by have := HNUM.out; omega) HB7.out)
  have hSBl := HSB.out
  have HXN := hidden (show Dist6 RB DB FB NB MB SB from by
    have h1 := HNUM.out
    have h2 := HIX.out
    unfold Dist6
    refine ⟨?_, ?_, ?_, ?_, ?_, ?_, ?_, ?_, ?_, ?_, ?_, ?_, ?_, ?_, ?_⟩ <;> omega)
  have HST := hidden (show Bld w.heap.size w N RB DB FB NB MB SB base w7 RS0 w7 (.slice none 0 0) (.slice none 0 0) (.slice (some ⟨FL, 0, none⟩) 1 1) (.slice none 0 0) [] [.slice none 0 0] [] [] [[]] [] (.map []) (fun _ => 0) from by
    have h1 := HNUM.out
    have h2 := HIX.out
    have hl := HSE.out.lt
    rw [hRS0]
    exact ⟨core_start ((HB7.out.block FL (by omega)).trans HFL.out) (by omega) (fun k hk => by rcases hk with e | e | e | e | e | e <;> omega) (fun hk => by rcases hk with e | e | e | e | e | e <;> omega),
      HA6.out.below HB7.out, by rw [h2.2]; exact HR6.out.below HB7.out, (HB7.out.block _ HFB.out.lt).trans HFB.out, (HB7.out.block _ HNBX.out.lt).trans HNBX.out, HMP.out.kept (row := none) ⟨HB7.out.os, HB7.out.tape, HB7.out.output, HB7.out.size, fun k hk _ => HB7.out.block k hk⟩ (by simp), MapN.start, HSE.out, HB0.out, ⟨by omega, by omega, by omega, by omega, by omega, by omega, by omega, by omega⟩, HXN.out⟩)
  have HGF := hidden (show ∀ k, GP w.heap.size w6 w7 SB k → FarR w7 (XP RB DB FB NB MB SB) RS0 k from fun k hk => by
    have h1 := HNUM.out
    have h2 := HIX.out
    obtain ⟨g1, g2, g3⟩ := hk
    refine ⟨g2, fun hx => ?_, fun r hr e => ?_⟩
    · rcases hx with e | e | e | e | e | e <;> omega
    · rw [hRS0] at hr
      simp only [rows4, List.mem_cons, List.not_mem_nil, or_false] at hr
      rcases hr with rfl | rfl | rfl | rfl <;> simp [Value.ownBlock] at e
      omega)
  have HPATH := hidden (fun (wr : World) (vn vl fv rv : Value) (us' ws : List Value) (Nn : List (List Int)) (L : List Int) (F : List (List Int)) (R : List Int) (D : DataW Unit) (T : Nat → Int) (hB : Bld w.heap.size w N RB DB FB NB MB SB base w7 RS0 wr vn vl fv rv us' ws Nn L F R D T) =>
    (show PathR (FarR wr (XP RB DB FB NB MB SB) (rows4 vn vl fv rv us' ws Nn L F R)) w.heap.size wr P CB BF SB (.slice sa N.sets.length cs) vo vl0 vf v1 b1 us (fun q => clsU N q (widN N)) N from
      (HPR.out.now (fun k hk => (hB.core.stay k (HGF.out k hk)).2) (HN.out.below hB.below (Nat.le_refl _))).more (fun k hk => (hB.core.stay k (HGF.out k hk)).1) (fun hf => hf.2.1 (.inr (.inr (.inr (.inr (.inr rfl))))))))
  have HPWR := hidden (fun (wr : World) (hb : Below w.heap.size w wr) => (show Pow wr from tabBelow_of_tabIs HPW.out wr hb))
  have HRNG := hidden (fun k l (hl : l ∈ (machS N k).1) => (show l.length ≤ 900 ∧ ∀ x ∈ l, 0 ≤ x ∧ x < (N.sets.length : Int) from
    outS_all (goN N) (tokenM N) (widN N) (P := fun l => l.length ≤ 900 ∧ ∀ x ∈ l, 0 ≤ x ∧ x < (N.sets.length : Int)) ⟨by simp, fun x hx => by simp at hx⟩ (fun i l c => ⟨Nat.le_trans (goN_rng HRT.out i l c).1 HN9.out, (goN_rng HRT.out i l c).2⟩) k l hl))
  have HGR := hidden (fun i l c => (show (goN N i l c).length ≤ 900 ∧ ∀ x ∈ goN N i l c, 0 ≤ x ∧ x < (N.sets.length : Int) from ⟨Nat.le_trans (goN_rng HRT.out i l c).1 HN9.out, (goN_rng HRT.out i l c).2⟩))
  have hwd : widN N ≤ 256 := cntK_le _ 256
  have HWD := hidden hwd
  clear m0 m1 m2 m3 m4 k1 HPO HSE HSB HB7 hSBl hz7 HFL HFB HMP HNBX HB6 HA6 HR6 hz3 hz4 hwd HB0 hRS0 hbase hRB HGF HPR
  rw [show w.heap.size + 1 = RB from HIX.out.2.symm]
  go_step3
  go_wp2
  go_loopw [11] (fun i wr => ∃ (k : Nat) (vn vl fv : Value) (us' ws : List Value) (D : DataW Unit) (T : Nat → Int), i = .int .i64 (k : Nat) ∧ k ≤ (machS N k).1.length ∧ (machS N k).1.length ≤ M ∧ (∀ q, q < N.sets.length → T q ≤ 0 ∨ T q < k) ∧ Bld w.heap.size w N RB DB FB NB MB SB base w7 RS0 wr vn vl fv (.slice none 0 0) us' ws (machS N k).2.1 (machS N k).2.2 (machS N k).1 [] D T) (fun i _ => M + 1 - (Go.RowKit.intOf i).toNat)
  case atStart => exact ⟨0, _, _, _, _, _, _, _, rfl, Nat.zero_le _, hM1, fun q _ => .inl (Int.le_refl _), HST.out⟩
  case round =>
    clear HST
    obtain ⟨k, vn, vl, fv, us', ws, D, T, rfl, hk, hkM, hT, hS⟩ := hrel
    obtain ⟨F, hF⟩ : ∃ F, F = (machS N k).1 := ⟨_, rfl⟩
    obtain ⟨NX, hNX⟩ : ∃ x, x = (machS N k).2.1 := ⟨_, rfl⟩
    obtain ⟨LB, hLB⟩ : ∃ x, x = (machS N k).2.2 := ⟨_, rfl⟩
    have HRF := hidden (fun l (hl : l ∈ F) => HRNG.out k l (hF ▸ hl))
    have HF := hidden hF
    have HNX := hidden hNX
    have HLB := hidden hLB
    rw [← hF, ← hNX, ← hLB] at hS
    rw [← hF] at hk hkM
    clear hF hNX hLB
    obtain ⟨n, hn⟩ : ∃ n, n = F.length := ⟨_, rfl⟩
    have HNn := hidden hn
    rw [← hn] at hk hkM
    obtain ⟨fa, fc, hfv⟩ := row_slice14 hS.core.rowF
    rw [← hn] at hfv
    subst hfv
    have HS := hidden hS
    have HT := hidden hT
    have q7 := hS.fb.cell
    clear hS hT hn
    by_cases hlt : k < n
    · have hkF : k < F.length := by rw [← HNn.out]; exact hlt
      obtain ⟨fb, fc', a8, c8, hfe, hfc, hfel⟩ := HS.out.core.foundAt hkF
      rw [← HNn.out] at hfe
      simp only [Value.slice.injEq] at hfe
      obtain ⟨hfa, _, rfl⟩ := hfe
      subst hfa
      have hin : F.getD k [] ∈ F := by rw [List.getD_eq_getElem?_getD, List.getElem?_eq_getElem hkF]; exact List.getElem_mem _
      have HRFK := hidden (HRF.out _ hin)
      obtain ⟨TL, hTL⟩ : ∃ x, x = F.getD k [] := ⟨_, rfl⟩
      have HTL := hidden hTL
      rw [← hTL] at hfc hfel HRFK
      obtain ⟨tl, htl⟩ : ∃ x, x = TL.length := ⟨_, rfl⟩
      have HTLL := hidden htl
      rw [← htl] at hfc hfel
      have HFR := hidden (from_calls (HPATH.out wr _ _ _ _ _ _ _ _ _ _ _ _ HS.out) (fun k hk => hk.1) HRT.out HN9.out HS.out.seen (st := k) (fun e q hq => by
        rcases HT.out q hq with h | h
        · exact h
        · omega) (fun e q hq => by
        rcases HT.out q hq with h | h
        · omega
        · exact h) hfel HRFK.out.2)
      have hki : (k : Int) < (n : Int) := by omega
      clear hin hTL htl hfel
      go_wp2_with fail
      refine HFR.out.mono ?_
      rintro e wq ⟨TB, us2, T', rfl, hTB, hTab, hEl, hBut, hSee, hT'⟩
      have HSQ := hidden (HS.out.turn hBut hSee)
      have HQ0 := hidden HSQ.out.anew
      have hfar : ∀ j, wr.heap.size ≤ j ∧ j < wq.heap.size → FarR wq (XP RB DB FB NB MB SB) (rows4 vn vl (.slice (some ⟨fb, 0, none⟩) n fc) (.slice none 0 0) us' ws NX LB F []) j := fun j hj => HS.out.core.own.far_new (Nat.le_refl _) hj
      have HFT := hidden (hfar TB ⟨hTB, hTab.lt⟩)
      have HTAB := hidden hTab
      have HEL := hidden (fun c hc => (hEl c hc).mono (P' := FarR wq (XP RB DB FB NB MB SB) (rows4 vn vl (.slice (some ⟨fb, 0, none⟩) n fc) (.slice none 0 0) us' ws NX LB F [])) fun j hj => ⟨hfar j hj, rfl⟩)
      have HT2 := hidden hT'
      clear hTB hTab hEl hBut hSee hT' hfar hfc HFR q7
      obtain ⟨W, hW⟩ : ∃ W, W = widN N := ⟨_, rfl⟩
      have HWE := hidden hW
      rw [← hW] at HTAB HEL ⊢
      have hW6 : W ≤ 256 := by have := HWD.out; omega
      clear hW
      dsimp only
      go_wp2
      go_loopw [12, 46] (fun v i wr => ∃ (c : Nat) (rv fv : Value) (ws2 : List Value) (D2 : DataW Unit), rv = v ∧ i = .int .i64 (c : Nat) ∧ c ≤ W ∧ (rowS (goN N) k F c).1.length ≤ M ∧ Bld w.heap.size w N RB DB FB NB MB SB base wq (rows4 vn vl (.slice (some ⟨fb, 0, none⟩) n fc) (.slice none 0 0) us' ws NX LB F []) wr vn vl fv rv us' ws2 NX LB (rowS (goN N) k F c).1 (rowS (goN N) k F c).2 D2 T') (fun _ i _ => W - (Go.RowKit.intOf i).toNat)
      case atStart => exact ⟨0, _, _, _, _, rfl, rfl, Nat.zero_le _, by rw [show (rowS (goN N) k F 0).1 = F from rfl, ← HNn.out]; exact hkM, HQ0.out⟩
      case round =>
        clear HQ0
        obtain ⟨c, rv, fv2, ws2, D2, rfl, rfl, hc, hcM, hB⟩ := hrel
        obtain ⟨G, hG⟩ : ∃ G, G = (rowS (goN N) k F c).1 := ⟨_, rfl⟩
        obtain ⟨R, hRr⟩ : ∃ R, R = (rowS (goN N) k F c).2 := ⟨_, rfl⟩
        have HG := hidden hG
        have HR := hidden hRr
        rw [← hG] at hcM hB
        rw [← hRr] at hB
        clear hG hRr
        obtain ⟨ra, rc, hrv⟩ := row_slice14 hB.core.rowR
        obtain ⟨r2, hr2⟩ : ∃ n, n = R.length := ⟨_, rfl⟩
        have HR2 := hidden hr2
        rw [← hr2] at hrv
        subst hrv
        have HQ := hidden hB
        clear hB hr2
        by_cases hcl : c < W
        · have hkF : k < F.length := by rw [← HNn.out]; exact hlt
          have hFG : F <+: G := by rw [HG.out]; exact rowS_pre (goN N) k F (Nat.zero_le c)
          obtain ⟨X, hX⟩ : ∃ X, X = goN N k TL c := ⟨_, rfl⟩
          have hXg : goN N k (G.getD k []) c = X := by rw [pre_getD hFG hkF [], ← HTL.out]; exact hX.symm
          have HRS := hidden (show rowS (goN N) k F (c + 1) = (if X = [] then G else if findI X G 0 < 0 then G ++ [X] else G, R ++ [if X = [] then -1 else if findI X G 0 < 0 then (G.length : Int) else findI X G 0]) by
            show clsS (goN N) k (rowS (goN N) k F c) c = _
            rw [show rowS (goN N) k F c = (G, R) from Prod.ext HG.out.symm HR.out.symm]
            exact clsS_pair (goN N) k G R c hXg)
          have HXR := hidden (show X.length ≤ 900 ∧ ∀ x ∈ X, 0 ≤ x ∧ x < (N.sets.length : Int) from hX ▸ HGR.out k TL c)
          have hel := HEL.out c hcl
          rw [← hX] at hel
          obtain ⟨ax, cx, hux⟩ := elR_form hel
          have d0 := (HTAB.out.at (HQ.out.core.stay TB HFT.out).2).cell hcl
          rw [hux] at hel d0
          have hel2 := hel.mono (HQ.out.core.stay)
          have HEL2 := hidden hel2
          obtain ⟨xl, hxl⟩ : ∃ n, n = X.length := ⟨_, rfl⟩
          have HXL := hidden hxl
          rw [← hxl] at d0 HEL2
          have hob := fun j hj => HQ.out.core.own.out ⟨23, 1, fv2, G.length, ws2⟩ (by simp [rows4]) j hj
          have HNU := hidden (numb14_calls HQ.out.fb HQ.out.nb HQ.out.mp HQ.out.num (by omega) HQ.out.core.rowF (by omega) HQ.out.lo.2.1 (elR_reads HEL2.out fun _ hk => hk.1) (by have := HXR.out.1; omega) (fun x hx => by have := HXR.out.2 x hx; have := HN9.out; omega) (HPWR.out _ HQ.out.below)
            (fun e => hob _ e (.inr (.inr (.inl rfl)))) (fun e => hob _ e (.inr (.inr (.inr (.inr (.inl rfl)))))) (by obtain ⟨n1, n2, n3, n4, n5, n6, n7, n8, n9, n10, n11, n12, n13, n14, n15⟩ := HXN.out; exact ⟨n11, n13, Ne.symm n10⟩) (fun e => hob _ e (.inr (.inr (.inr (.inl rfl))))))
          clear hX hXg hel hux hel2 hxl hob hFG hkF
          go_wp2_with fail
          refine HNU.out.mono ?_
          rintro e w8 hnum
          obtain ⟨x, fv3, ws3, D3, rfl, hB8, hx⟩ := HQ.out.number HEL2.out hnum
          obtain ⟨G2, hG2⟩ : ∃ G2, G2 = (rowS (goN N) k F (c + 1)).1 := ⟨_, rfl⟩
          have hif : (if X = [] then G else if findI X G 0 < 0 then G ++ [X] else G) = G2 := by rw [hG2, HRS.out]
          have HRX := hidden (show (rowS (goN N) k F (c + 1)).2 = R ++ [x] by rw [HRS.out, hx])
          rw [hif] at hB8
          have HG2 := hidden hG2
          obtain ⟨f3, c3, hv3⟩ := row_slice14 hB8.core.rowF
          obtain ⟨g2, hg2⟩ : ∃ n, n = G2.length := ⟨_, rfl⟩
          have HGL := hidden hg2
          rw [← hg2] at hv3
          subst hv3
          have HB8a := hidden (hB8.kept ((Below.refl w8.heap.size w8).alloc (Nat.le_refl _) (.cells #[.int .i64 x] 3)))
          have hown := HB8a.out.core.rowR
          unfold RowZ at hown
          have hown' : (w8.alloc (.cells #[.int .i64 x] 3)).ownsRow base 3 1 (.slice ra r2 rc) r2 (R.map (Value.int .i64)) := by rw [HR2.out] at hown ⊢; exact hown
          have HOW := hidden hown'
          have HI := hidden infoInt
          have HBS := hidden HB8a.out.lo.2.1
          have HRL := hidden (show r2 = c by
            have hok := outS_ok (goN N) (tokenM N) (widN N) k (by have h4 := HF.out; unfold machS at h4; rw [← h4, ← HNn.out]; omega)
            have h6 := HF.out
            unfold machS at h6
            have h7 := (rowS_ok (goN N) (i := k) (F := F) (by rw [h6]; exact hok.1) (by rw [← HNn.out]; exact hlt) c).2.1
            rw [HR2.out, HR.out]; exact h7)
          have HLN := hidden (show r2 + 1 ≤ 1000000 by have := HRL.out; omega)
          clear hB8 hnum hx hif hG2 hg2 hown hown' HNU HEL2 HRS HXR HXL d0
          dsimp only
          by_cases ho : M < g2
          · have hoi : most < (g2 : Int) := by have := HM.out; omega
            have hol : decide ((g2 : Int) ≤ most) = false := decide_eq_false (by omega)
            have HE := hidden (show errB N most = 16 by
              unfold errB
              have h3 : (most.toNat : Nat) = M := by have := HM.out; omega
              rw [if_neg (by simp [HRT.out]), if_neg (by have := HM.out; omega), h3, if_pos]
              have hk' : k < (outS (goN N) (tokenM N) (widN N) k).1.length := by
                have h4 := HF.out
                unfold machS at h4
                rw [← h4, ← HNn.out]; exact hlt
              have hov := outS_over (goN N) (tokenM N) (widN N) (i := k) (m := M) (c := c + 1) (by omega) hk' (by have := HWE.out; omega) (by
                have h4 := HF.out
                unfold machS at h4
                rw [← h4, ← HG2.out, ← HGL.out]; exact ho)
              have hov' : M < fndN N M := hov
              have := HM.out
              omega)
            go_wp2_with (at_builtin; (first | refine wpList_app (v := .slice ra r2 rc) rfl _ _ rfl HI.out Tryz.underlying23 rfl (by decide) (by decide) rfl HOW.out rfl (Src.one w8 (.int .i64 x) 3 _ rfl) (by simp) (by simp [Value.oneCell']) HLN.out HBS.out ?_ | refine wp_app (v := .slice ra r2 rc) _ _ rfl HI.out Tryz.underlying23 rfl (by decide) (by decide) rfl HOW.out rfl (Src.one w8 (.int .i64 x) 3 _ rfl) (by simp) (by simp [Value.oneCell']) HLN.out HBS.out ?_); intro v9 w9 hA9; obtain ⟨a9, c9, hv9⟩ := row_slice14 hA9.own; subst hv9; have HS9 := hidden (HB8a.out.putR (x := x) (rv' := .slice a9 (r2 + 1) c9) (by rw [← HR2.out]; exact hA9)); have q9 := HS9.out.fb.cell; clear hA9)
            have HON := hidden HS9.out.ones
            refine Rl.wp_region_stepsH (R := R19 RB (clsN N) (widN N) vn vl) (Rl.typ [Rl.Is (dfaA (clsN N) (widN N) vn vl), Rl.Is (.slice f3 g2 c3), Rl.Is (.int .i64 (g2 : Nat)), Rl.Is (.int .i64 most), Rl.Is (.bool false), fun _ w1 => DfaAt w1 RB (clsN N) (widN N) vn vl, Rl.Is (.bool false)]) (W19 RB w9) (by kernel_rfl) (by kernel_rfl) (by kernel_rfl) (by kernel_rfl) ?mono ⟨(But.refl _ _ _).drew, _, _, _, _, (show DfaAt w9.drew RB zG 0 (.slice none 0 0) (.slice none 0 0) from HS9.out.res)⟩ [] (by kernel_rfl) ?guards ?step ?fin
            case mono =>
              refine Rl.typ_mono ?_
              simp only [List.forall_mem_cons]
              repeat' (first | exact (fun v w w' h _ => h) | exact (fun v w w' h hR => hR.2 h) | (intro p hp; cases hp; done) | refine And.intro ?_ ?_)
            case guards =>
              intro g hg
              cases hg
            case step =>
              have hnd : DB ≠ RB := (by obtain ⟨n1, _⟩ := HXN.out; exact Ne.symm n1)
              have hnf : FB ≠ RB := (by obtain ⟨_, n2, _⟩ := HXN.out; exact Ne.symm n2)
              refine ⟨?_, ?_, ?_, ?_, ?_, ?_, ?_, trivial⟩
              · intro ρ w1 hF hW
                have e6 : ρ 6 = .pointer (some ⟨DB, 0, none⟩) := hF 6 (by decide)
                exact does_load_dfa rfl e6 (show DfaAt w1 DB (clsN N) (widN N) vn vl from (hW.1.block DB HS9.out.d.lt hnd).trans HS9.out.d) ⟨rfl, hW, r19_below (Below.refl _ _)⟩
              · intro ρ w1 hF hW
                have e7 : ρ 7 = .pointer (some ⟨FB, 0, none⟩) := hF 7 (by decide)
                have q1 := (show Boxed w1 FB 25 (.slice f3 g2 c3) from (hW.1.block FB HS9.out.fb.lt hnf).trans HS9.out.fb).cell
                have HW := hidden hW
                clear hF hW
                unfold Rl.Does
                go_simp
                exact ⟨rfl, HW.out, r19_below (Below.refl _ _)⟩
              · intro ρ w1 hF hW
                have e82 : ρ 82 = .slice f3 g2 c3 := hF 82 (by decide)
                have HW := hidden hW
                clear hF hW
                unfold Rl.Does
                go_simp
                exact ⟨rfl, HW.out, r19_below (Below.refl _ _)⟩
              · intro ρ w1 hF hW
                have e1 : ρ 1 = .int .i64 most := hF 1 (by decide)
                have HW := hidden hW
                clear hF hW
                unfold Rl.Does
                go_simp
                exact ⟨rfl, HW.out, r19_below (Below.refl _ _)⟩
              · intro ρ w1 hF hW
                have e83 : ρ 83 = .int .i64 (g2 : Nat) := hF 83 (by decide)
                have e84 : ρ 84 = .int .i64 most := hF 84 (by decide)
                have HW := hidden hW
                clear hF hW
                unfold Rl.Does
                go_simp
                exact ⟨rfl, HW.out, r19_below (Below.refl _ _)⟩
              · intro ρ w1 hF hW
                have e4 : ρ 4 = .pointer (some ⟨RB, 0, none⟩) := hF 4 (by decide)
                have e81 : ρ 81 = dfaA (clsN N) (widN N) vn vl := hF 81 (by decide)
                obtain ⟨hb1, g1, wd1, vn1, vl1, hA1⟩ := hW
                refine does_store_dfa rfl e4 e81 hA1 HON.out.1 HON.out.2 fun w2 hA2 hg2 => ⟨hA2, ⟨hb1.grown hg2 (fun k e => .inl (by simpa using e.symm)) hb1.size, _, _, _, _, hA2⟩, (But.refl _ _ _).grown hg2 (fun k e => .inl (by simpa using e.symm)) (Nat.le_refl _), fun _ => hA2⟩
              · intro ρ w1 hF hW
                have e85 : ρ 85 = .bool false := hF 85 (by decide)
                have HW := hidden hW
                clear hF hW
                unfold Rl.Does
                go_simp
                exact ⟨rfl, HW.out, r19_below (Below.refl _ _)⟩
            case fin =>
              intro a1 w11 hs hv hgh hW
              have h5 : a1.tmps.getD 5 undef = .bool false := hv 6 5 (by kernel_rfl)
              obtain ⟨_, hA2⟩ : ∃ v : Value, DfaAt w11 RB (clsN N) (widN N) vn vl := hgh 5 (by decide)
              have HA2 := hidden hA2
              have HGR2 := hidden (show w9.grownBy w11 (some RB) from ⟨hW.1.os, hW.1.tape, hW.1.output, hW.1.size, fun k hk hne => hW.1.block k hk fun e => hne (by rw [e])⟩)
              have hd := hs.defers
              have hz := hs.lit [81, 82, 83, 84, 85, 5] (by kernel_rfl)
              clear hs hv hgh hW hA2
              obtain ⟨tm, df⟩ := a1
              simp only at hz hd h5
              simp only [List.foldl_cons, List.foldl_nil, List.setIfInBounds_toArray, List.set_cons_zero, List.set_cons_succ] at hz
              rw [h5] at hz
              generalize tm.getD 81 undef = u81 at hz
              generalize tm.getD 82 undef = u82 at hz
              generalize tm.getD 83 undef = u83 at hz
              generalize tm.getD 84 undef = u84 at hz
              generalize tm.getD 85 undef = u85 at hz
              clear h5
              subst hz hd
              (try go_wp2_with fail)
              (try rw [Exit.noGoto_ret])
              refine ret_dfa2 Tryz.results26 rfl rfl rfl HA2.out ?_
              have HBW := hidden (HS9.out.below.grown HGR2.out (Nat.le_trans HS9.out.lo.1 HS9.out.lo.2.1) (by intro j hj; simp only [Option.some.injEq] at hj; have := HS9.out.lo.2.2.1; omega))
              exact ⟨_, _, _, _, by rw [HE.out]; rfl, HON.out.1, HON.out.2, (fun h => by rw [HE.out] at h; cases h), HBW.out⟩
          · have hoi : (g2 : Int) ≤ most := by have := HM.out; omega
            have HO := hidden ho
            clear ho
            go_wp2_with (at_builtin; (first | refine wpList_app (v := .slice ra r2 rc) rfl _ _ rfl HI.out Tryz.underlying23 rfl (by decide) (by decide) rfl HOW.out rfl (Src.one w8 (.int .i64 x) 3 _ rfl) (by simp) (by simp [Value.oneCell']) HLN.out HBS.out ?_ | refine wp_app (v := .slice ra r2 rc) _ _ rfl HI.out Tryz.underlying23 rfl (by decide) (by decide) rfl HOW.out rfl (Src.one w8 (.int .i64 x) 3 _ rfl) (by simp) (by simp [Value.oneCell']) HLN.out HBS.out ?_); intro v9 w9 hA9; obtain ⟨a9, c9, hv9⟩ := row_slice14 hA9.own; subst hv9; have HS9 := hidden (HB8a.out.putR (x := x) (rv' := .slice a9 (r2 + 1) c9) (by rw [← HR2.out]; exact hA9)); have q9 := HS9.out.fb.cell; clear hA9)
            go_roundw
            case rel => exact ⟨c + 1, _, _, ws3, D3, rfl, by go_num, by omega, by rw [← HG2.out, ← HGL.out]; have := HO.out; omega, by rw [← HG2.out, HRX.out]; exact HS9.out⟩
            case measure => simp [Go.RowKit.intOf]; omega
        · have hcW : c = W := by omega
          have HBK := hidden (HQ.out.back HSQ.out.core.stay)
          obtain ⟨hD, hE⟩ := HBK.out.dropR
          have HD := hidden hD
          have HE0 := hidden hE
          clear hD hE
          obtain ⟨an, cn, hvn⟩ := row_slice14 HD.out.core.rowN
          obtain ⟨al, cl, hvl⟩ := row_slice14 HD.out.core.rowL
          obtain ⟨nn, hnn⟩ : ∃ n, n = NX.length := ⟨_, rfl⟩
          obtain ⟨lq, hlq⟩ : ∃ n, n = LB.length := ⟨_, rfl⟩
          rw [← hnn] at hvn
          rw [← hlq] at hvl
          subst hvn hvl
          have HNNE := hidden hnn
          have HLQE := hidden hlq
          have hlen := outS_lens (goN N) (tokenM N) (widN N) k (by have h4 := HF.out; unfold machS at h4; rw [← h4, ← HNn.out]; omega)
          have HLEN := hidden (show nn + 1 ≤ 1000000 ∧ lq + 1 ≤ 1000000 by
            have e1 : nn = k := by rw [hnn, HNX.out]; exact hlen.1
            have e2 : lq = k := by rw [hlq, HLB.out]; exact hlen.2
            omega)
          have HLN := hidden HLEN.out.1
          have hal := (Below.refl wr.heap.size wr).alloc (Nat.le_refl _) (.cells #[.slice ra r2 rc] 23)
          have HDa := hidden (HD.out.kept hal)
          have HEa := hidden (HE0.out.mono (StayR.farN (StayR.keptB (X := XP RB DB FB NB MB SB) (But.of hal _)) base))
          have hown : (wr.alloc (.cells #[.slice ra r2 rc] 23)).ownsRow base 23 1 (.slice an nn cn) nn us' := by rw [hnn]; have h5 := HDa.out.core.rowN; rw [← hnn] at h5 ⊢; exact h5
          have HOW := hidden hown
          have HBS := hidden HDa.out.lo.2.1
          have HI := hidden infoZZ
          have k2 := HDa.out.d.next
          have k2' := HD.out.d.next
          clear hal hown hlen hnn hlq
          go_upto_region 18 with (at_builtin; (first | refine wpList_app (v := .slice an nn cn) rfl _ _ rfl HI.out Tryz.underlying25 rfl (by decide) (by decide) rfl HOW.out rfl (Src.one wr (.slice ra r2 rc) 23 _ rfl) (by simp) (by simp [Value.oneCell']) HLN.out HBS.out ?_ | refine wp_app (v := .slice an nn cn) _ _ rfl HI.out Tryz.underlying25 rfl (by decide) (by decide) rfl HOW.out rfl (Src.one wr (.slice ra r2 rc) 23 _ rfl) (by simp) (by simp [Value.oneCell']) HLN.out HBS.out ?_); intro v13 w13 hA; have HA13 := hidden hA; obtain ⟨a13, c13, hv13⟩ := row_slice14 hA.own; subst hv13; have HD13 := hidden (HDa.out.d.grown hA.grown (fun e => HDa.out.core.own.out ⟨23, 1, .slice an nn cn, NX.length, us'⟩ (by simp [rows4]) DB e (.inr (.inl rfl)))); have r4 := HD13.out.next; have hf9 := HD13.out.frozen 257; clear hA)
          have HSN := hidden (Bld.putN (t := R) HDa.out HEa.out (vn' := .slice a13 (nn + 1) c13) (by rw [← HNNE.out]; exact HA13.out))
          clear r4 hf9 k2 k2'
          obtain ⟨w14, hw14⟩ : ∃ w14, w14 = w13.setCell ⟨DB, 257, none⟩ (.slice a13 (nn + 1) c13) := ⟨_, rfl⟩
          rw [← hw14] at HSN ⊢
          have HSd := hidden (HSN.out.kept (w' := w14.drew) (Below.refl _ _).drew)
          have hFG : F <+: G := by rw [HG.out]; exact rowS_pre (goN N) k F (Nat.zero_le c)
          have hkF : k < F.length := by rw [← HNn.out]; exact hlt
          have hkG : k < G.length := Nat.lt_of_lt_of_le hkF hFG.length_le
          obtain ⟨fb2, fc2, a9, c9, hv2, hfc, hfel⟩ := HSd.out.core.foundAt hkG
          subst hv2
          have hin : F.getD k [] ∈ F := by rw [List.getD_eq_getElem?_getD, List.getElem?_eq_getElem hkF]; exact List.getElem_mem _
          have HTR := hidden (show (G.getD k []).length ≤ 900 by rw [pre_getD hFG hkF []]; exact (HRF.out _ hin).1)
          have HMK := hidden (show machS N (k + 1) = (G, NX ++ [R], LB ++ [tokenM N (G.getD k [])]) by
            have h4 := HF.out
            have h5 : k < (outS (goN N) (tokenM N) (widN N) k).1.length := by
              unfold machS at h4
              rw [← h4]; exact hkF
            have h6 := outS_more (goN N) (tokenM N) (widN N) h5
            have h7 : c = widN N := hcW.trans HWE.out
            show outS (goN N) (tokenM N) (widN N) (k + 1) = _
            rw [h6]
            have h8 : (outS (goN N) (tokenM N) (widN N) k).1 = F := h4.symm
            rw [h8, show rowS (goN N) k F (widN N) = rowS (goN N) k F c by rw [h7], ← HG.out, ← HR.out, HNX.out, HLB.out]
            rfl)
          have hPR := HPATH.out _ _ _ _ _ _ _ _ _ _ _ _ _ HSd.out
          have HTOK := hidden (Token_calls (rd_bare hPR.net hPR.bare hPR.first (fun k hk => hk.1) (Nat.le_trans HN9.out (by decide)) (Nat.le_trans HSd.out.lo.1 HSd.out.lo.2.1)) (by show N.sets.length ≤ 100000; have := HN9.out; omega) (elR_reads hfel fun _ hk => hk.1))
          rw [bare_token HRT.out] at HTOK
          obtain ⟨p5, p6, p7, p8, p9⟩ : w14.drew.cell? ⟨P, 5, none⟩ = some (.slice sa N.sets.length cs) ∧ w14.drew.cell? ⟨P, 6, none⟩ = some vo ∧ w14.drew.cell? ⟨P, 7, none⟩ = some vl0 ∧ w14.drew.cell? ⟨P, 8, none⟩ = some (.slice (some ⟨BF, 0, none⟩) N.sets.length N.sets.length) ∧ w14.drew.cell? ⟨P, 9, none⟩ = some b1 :=
            ⟨cell_of_row _ _ 5 _ _ _ hPR.obj, cell_of_row _ _ 6 _ _ _ hPR.obj, cell_of_row _ _ 7 _ _ _ hPR.obj, cell_of_row _ _ 8 _ _ _ hPR.obj, cell_of_row _ _ 9 _ _ _ hPR.obj⟩
          have q7 := HSd.out.fb.cell
          have l4 := HSd.out.d.label
          obtain ⟨tk, htk⟩ : ∃ x, x = tokenM N (G.getD k []) := ⟨_, rfl⟩
          rw [← htk] at HMK HTOK
          obtain ⟨tl2, htl2⟩ : ∃ x, x = (G.getD k []).length := ⟨_, rfl⟩
          rw [← htl2] at HTOK hfc
          obtain ⟨n2, hn2⟩ : ∃ x, x = G.length := ⟨_, rfl⟩
          have HHK := hidden (show k + 1 ≤ G.length ∧ G.length ≤ M from ⟨hkG, hcM⟩)
          have hkn2 : (k : Int) < (n2 : Int) := by omega
          have HN2 := hidden hn2
          rw [← hn2] at q7
          have HLR := hidden (fun (w' : World) {us : List Value} {vn : Value} {F : List (List Int)} {fv : Value} {ws : List Value} {Nn : List (List Int)} {R : List Int} {rv : Value} {D : DataW Unit} {T : Nat → Int} (h : Bld w.heap.size w N RB DB FB NB MB SB base w7 RS0 w' vn (.slice al lq cl) fv rv us ws Nn LB F R D T) => (show w'.ownsRow base 3 1 (.slice al lq cl) lq (LB.map (Value.int .i64)) ∧ (Value.slice al lq cl).ownBlock ≠ some DB from by
            have h1 := h.core.rowL
            unfold RowZ at h1
            rw [← HLQE.out] at h1
            exact ⟨h1, fun e => h.core.own.out ⟨3, 1, .slice al lq cl, LB.length, LB.map (Value.int .i64)⟩ (by simp [rows4]) DB e (.inr (.inl rfl))⟩))
          have HLQ9 := hidden HLEN.out.2
          have HI2 := hidden infoInt
          clear hw14 HSN hFG hkF hkG hfel hin hPR htk htl2 hn2 HD13 HA13 HDa HEa HOW HBS HLN HI HBK HD HE0 HQ HSQ HTAB HEL HFT
          go_wp2_with fail
          go_region_law (first
            | (go_simp; refine HTOK.out.mono ?_; rintro e w5 ⟨rfl, hb5⟩; have hS5 := HSd.out.kept hb5; have hal5 : Below w5.heap.size w5 (w5.alloc (.cells #[.int .i64 tk] 3)) := (Below.refl w5.heap.size w5).alloc (Nat.le_refl _) _; have HS6 := hidden (hS5.kept hal5); have l5 := hS5.d.label; have l6 := HS6.out.d.label; have HB7 := hidden HS6.out.lo.2.1; clear hal5 hb5 hS5; dsimp only)
            | (refine step_app (v := .slice al lq cl) rfl _ _ rfl HI2.out Tryz.underlying23 rfl (by decide) (by decide) rfl (HLR.out _ HS6.out).1 rfl (Src.one _ (.int .i64 tk) 3 _ rfl) (by simp) (by simp [Value.oneCell']) HLQ9.out HB7.out ?_; intro v9 w9 hA9; have HA9 := hidden hA9; have HD9 := hidden (HS6.out.d.grown hA9.grown (HLR.out _ HS6.out).2); have r4 := HD9.out.label; have hf9 := HD9.out.frozen 258; obtain ⟨a9, c9, hv9⟩ := row_slice14 hA9.own; subst hv9; clear hA9))
          all_goals (have hA9 := HA9.out; have hS := Bld.putL (x := tk) HS6.out (vl' := .slice a9 (lq + 1) c9) (by rw [← HLQE.out]; exact hA9); have HSF := hidden hS; clear hS hA9)
          all_goals (clear HS6 HA9 HTOK HLR HLEN HI2 HB7 HD9 HSd)
          all_goals (clear p5 p6 p7 p8 p9 l4 l5 l6 r4 hf9 hfc hkn2 q7 hcM)
          all_goals go_wp2_with fail
          all_goals go_roundw
          all_goals first
            | (have := HHK.out; show M + 1 - ((k : Int) + 1).toNat < M + 1 - (k : Int).toNat; omega)
            | (have hWE := HWE.out; subst hWE; refine ⟨_, _, _, _, _, _, _, _, _, _, _, _, _, _, _, _, _, _, _, _, _, _, _, _, _, _, _, _, _, _, _, _, _, _, _, _, _, _, _, _, _, _, _, _, _, _, _, _, _, _, _, _, ?_, rfl⟩; exact ⟨k + 1, _, _, _, _, _, _, T', by go_num, by rw [HMK.out]; exact HHK.out.1, by rw [HMK.out]; exact HHK.out.2, fun q hq => .inr (by have := HT2.out q hq; omega), by rw [HMK.out]; exact HSF.out⟩)
    · have hkn : k = n := by omega
      have HBT := hidden (built HRT.out HM.out (by have := HM.out; omega) (by have := HM.out; omega) (k := k) (by rw [← HF.out, ← HNn.out, hkn]) (by omega))
      have hoi : (n : Int) ≤ most := by have := HM.out; omega
      have hol : decide ((n : Int) ≤ most) = true := decide_eq_true hoi
      go_wp2_with fail
      (try rw [Exit.noGoto_ret])
      have HON := hidden HS.out.ones
      refine Rl.wp_region_stepsH (R := R19 RB (clsN N) (widN N) vn vl) (Rl.typ [Rl.Is (dfaA (clsN N) (widN N) vn vl), Rl.Is (.slice fa n fc), Rl.Is (.int .i64 (n : Nat)), Rl.Is (.int .i64 most), Rl.Is (.bool true), fun _ w1 => DfaAt w1 RB (clsN N) (widN N) vn vl, Rl.Is (.bool true)]) (W19 RB wr) (by kernel_rfl) (by kernel_rfl) (by kernel_rfl) (by kernel_rfl) ?mono ⟨(But.refl _ _ _).drew, _, _, _, _, (show DfaAt wr.drew RB zG 0 (.slice none 0 0) (.slice none 0 0) from HS.out.res)⟩ [] (by kernel_rfl) ?guards ?step ?fin
      case mono =>
        refine Rl.typ_mono ?_
        simp only [List.forall_mem_cons]
        repeat' (first | exact (fun v w w' h _ => h) | exact (fun v w w' h hR => hR.2 h) | (intro p hp; cases hp; done) | refine And.intro ?_ ?_)
      case guards =>
        intro g hg
        cases hg
      case step =>
        have hnd : DB ≠ RB := (by obtain ⟨n1, _⟩ := HXN.out; exact Ne.symm n1)
        have hnf : FB ≠ RB := (by obtain ⟨_, n2, _⟩ := HXN.out; exact Ne.symm n2)
        refine ⟨?_, ?_, ?_, ?_, ?_, ?_, ?_, trivial⟩
        · intro ρ w1 hF hW
          have e6 : ρ 6 = .pointer (some ⟨DB, 0, none⟩) := hF 6 (by decide)
          exact does_load_dfa rfl e6 (show DfaAt w1 DB (clsN N) (widN N) vn vl from (hW.1.block DB HS.out.d.lt hnd).trans HS.out.d) ⟨rfl, hW, r19_below (Below.refl _ _)⟩
        · intro ρ w1 hF hW
          have e7 : ρ 7 = .pointer (some ⟨FB, 0, none⟩) := hF 7 (by decide)
          have q1 := (show Boxed w1 FB 25 (.slice fa n fc) from (hW.1.block FB HS.out.fb.lt hnf).trans HS.out.fb).cell
          have HW := hidden hW
          clear hF hW
          unfold Rl.Does
          go_simp
          exact ⟨rfl, HW.out, r19_below (Below.refl _ _)⟩
        · intro ρ w1 hF hW
          have e82 : ρ 82 = .slice fa n fc := hF 82 (by decide)
          have HW := hidden hW
          clear hF hW
          unfold Rl.Does
          go_simp
          exact ⟨rfl, HW.out, r19_below (Below.refl _ _)⟩
        · intro ρ w1 hF hW
          have e1 : ρ 1 = .int .i64 most := hF 1 (by decide)
          have HW := hidden hW
          clear hF hW
          unfold Rl.Does
          go_simp
          exact ⟨rfl, HW.out, r19_below (Below.refl _ _)⟩
        · intro ρ w1 hF hW
          have e83 : ρ 83 = .int .i64 (n : Nat) := hF 83 (by decide)
          have e84 : ρ 84 = .int .i64 most := hF 84 (by decide)
          have HW := hidden hW
          clear hF hW
          unfold Rl.Does
          go_simp
          exact ⟨rfl, HW.out, r19_below (Below.refl _ _)⟩
        · intro ρ w1 hF hW
          have e4 : ρ 4 = .pointer (some ⟨RB, 0, none⟩) := hF 4 (by decide)
          have e81 : ρ 81 = dfaA (clsN N) (widN N) vn vl := hF 81 (by decide)
          obtain ⟨hb1, g1, wd1, vn1, vl1, hA1⟩ := hW
          refine does_store_dfa rfl e4 e81 hA1 HON.out.1 HON.out.2 fun w2 hA2 hg2 => ⟨hA2, ⟨hb1.grown hg2 (fun k e => .inl (by simpa using e.symm)) hb1.size, _, _, _, _, hA2⟩, (But.refl _ _ _).grown hg2 (fun k e => .inl (by simpa using e.symm)) (Nat.le_refl _), fun _ => hA2⟩
        · intro ρ w1 hF hW
          have e85 : ρ 85 = .bool true := hF 85 (by decide)
          have HW := hidden hW
          clear hF hW
          unfold Rl.Does
          go_simp
          exact ⟨rfl, HW.out, r19_below (Below.refl _ _)⟩
      case fin =>
        intro a1 w11 hs hv hgh hW
        have h5 : a1.tmps.getD 5 undef = .bool true := hv 6 5 (by kernel_rfl)
        obtain ⟨_, hA2⟩ : ∃ v : Value, DfaAt w11 RB (clsN N) (widN N) vn vl := hgh 5 (by decide)
        have HA2 := hidden hA2
        have HGR2 := hidden (show wr.grownBy w11 (some RB) from ⟨hW.1.os, hW.1.tape, hW.1.output, hW.1.size, fun k hk hne => hW.1.block k hk fun e => hne (by rw [e])⟩)
        have hd := hs.defers
        have hz := hs.lit [81, 82, 83, 84, 85, 5] (by kernel_rfl)
        clear hs hv hgh hW hA2
        obtain ⟨tm, df⟩ := a1
        simp only at hz hd h5
        simp only [List.foldl_cons, List.foldl_nil, List.setIfInBounds_toArray, List.set_cons_zero, List.set_cons_succ] at hz
        rw [h5] at hz
        generalize tm.getD 81 undef = u81 at hz
        generalize tm.getD 82 undef = u82 at hz
        generalize tm.getD 83 undef = u83 at hz
        generalize tm.getD 84 undef = u84 at hz
        generalize tm.getD 85 undef = u85 at hz
        clear h5
        subst hz hd
        (try go_wp2_with fail)
        (try rw [Exit.noGoto_ret])
        refine ret_dfa2 Tryz.results26 rfl rfl rfl HA2.out ?_
        have HBW := hidden (HS.out.below.grown HGR2.out (Nat.le_trans HS.out.lo.1 HS.out.lo.2.1) (by intro j hj; simp only [Option.some.injEq] at hj; have := HS.out.lo.2.2.1; omega))
        exact ⟨_, _, _, _, by rw [HBT.out.1]; rfl, HON.out.1, HON.out.2, (fun _ => by
          rw [HBT.out.2.1]
          refine ⟨rfl, rfl, fun w12 hk12 hs12 => ?_⟩
          have hrd := HS.out.rd (w' := w12) (fun j h1 h2 h3 => (hk12 j (Nat.le_trans HS.out.lo.1 h1) (Nat.lt_of_lt_of_le h2 HGR2.out.size)).trans (HGR2.out.block j h2 fun e => h3 (by simpa using e))) (Nat.le_trans HGR2.out.size hs12)
          rw [HNX.out, HLB.out] at hrd
          exact ⟨hrd.1, hrd.2, fun j hj => Nat.lt_of_lt_of_le (cls_lt _ hj) (cntK_le _ 256)⟩), HBW.out⟩
end Go.Proofs.YtmpjjnjggihojaaGreatDoor
