/- DfAns, DfState, DfBare, DfBut, put together. -/
import Derived.Test.YtgaadndhecokfaaMu34
import Derived.Test.YtgaadndhecokfaaMu19
import Derived.RangeFuncBox
/- What Build answers for a net and a bound; the exact bound. -/
namespace Go.Proofs.Ytgaadndhecokfaa
open Go.RowKit

/-- how many are found, with a bound -/
def fndN (N : NetM) (m : Nat) : Nat := (machS N (m + 1)).1.length
/-- the answer's error -/
def errB (N : NetM) (most : Int) : Int := if rightB N = false then 3 else if most < 1 ∨ 4096 < most then 2 else if most < fndN N most.toNat then 16 else 0
/-- no machine -/
def noneD : DfaM := ⟨fun _ => 0, 0, [], []⟩
def machB (N : NetM) (most : Int) : DfaM := if errB N most = 0 then machM N (fndN N most.toNat) else noneD
def cntB (N : NetM) (most : Int) : Int := if errB N most = 0 then fndN N most.toNat else 0
end Go.Proofs.Ytgaadndhecokfaa

/- A machine that is built, the lists found, and the row beside it: what a step makes of them. -/
namespace Go.Proofs.Ytgaadndhecokfaa
open Go.RowKit Go.Lib Go.Joins

def XB (RB DB k : Nat) : Prop := k = RB ∨ k = DB
def rows4 (vn vl fv rv : Value) (us ws : List Value) (N : List (List Int)) (L : List Int) (F : List (List Int)) (R : List Int) : List R5 :=
  [⟨24, 1, vn, N.length, us⟩, ⟨3, 1, vl, L.length, L.map (Value.int .i64)⟩, ⟨24, 1, fv, F.length, ws⟩, ⟨3, 1, rv, R.length, R.map (Value.int .i64)⟩]
/-- block DB holds the machine, block RB none; the lists found and the row beside it -/
structure DfSt (w0 : World) (base : Nat) (w : World) (RB DB : Nat) (g : Nat → Nat) (wd : Int) (vn vl fv rv : Value) (us ws : List Value) (N : List (List Int)) (L : List Int) (F : List (List Int)) (R : List Int) : Prop where
  own : OwnR w (XB RB DB) base (rows4 vn vl fv rv us ws N L F R)
  d : DfaAt w DB g wd vn vl
  r : DfaAt w RB zG 0 (.slice none 0 0) (.slice none 0 0)
  ne : RB ≠ DB
  lo : base ≤ RB ∧ base ≤ DB
  elN : Els (FarR w (XB RB DB) (rows4 vn vl fv rv us ws N L F R)) w us N
  elF : Els (FarR w (XB RB DB) (rows4 vn vl fv rv us ws N L F R)) w ws F
  below : Below base w0 w
  size : base ≤ w0.heap.size
section
variable {w0 w w' : World} {base RB DB : Nat} {g : Nat → Nat} {wd : Int} {vn vl fv rv : Value} {us ws : List Value} {N : List (List Int)} {L : List Int} {F : List (List Int)} {R : List Int}
theorem DfSt.sz (h : DfSt w0 base w RB DB g wd vn vl fv rv us ws N L F R) : base ≤ w.heap.size := Nat.le_trans h.size h.below.size
theorem DfSt.kept (h : DfSt w0 base w RB DB g wd vn vl fv rv us ws N L F R) (hb : Below w.heap.size w w') : DfSt w0 base w' RB DB g wd vn vl fv rv us ws N L F R :=
  ⟨h.own.kept hb, h.d.below hb, h.r.below hb, h.ne, h.lo, h.elN.mono (StayR.below hb), h.elF.mono (StayR.below hb), below_then h.below h.sz hb, h.size⟩
theorem DfSt.rowN (h : DfSt w0 base w RB DB g wd vn vl fv rv us ws N L F R) : w.ownsRow base 24 1 vn N.length us := h.own.rows ⟨24, 1, vn, N.length, us⟩ (by simp [rows4])
theorem DfSt.rowL (h : DfSt w0 base w RB DB g wd vn vl fv rv us ws N L F R) : RowZ w base vl L := h.own.rows ⟨3, 1, vl, L.length, L.map (Value.int .i64)⟩ (by simp [rows4])
theorem DfSt.rowF (h : DfSt w0 base w RB DB g wd vn vl fv rv us ws N L F R) : w.ownsRow base 24 1 fv F.length ws := h.own.rows ⟨24, 1, fv, F.length, ws⟩ (by simp [rows4])
theorem DfSt.rowR (h : DfSt w0 base w RB DB g wd vn vl fv rv us ws N L F R) : RowZ w base rv R := h.own.rows ⟨3, 1, rv, R.length, R.map (Value.int .i64)⟩ (by simp [rows4])
theorem DfSt.found (h : DfSt w0 base w RB DB g wd vn vl fv rv us ws N L F R) : RdZZ w.heap.size w fv F := h.elF.reads h.rowF fun _ hk => hk.1
theorem DfSt.nexts (h : DfSt w0 base w RB DB g wd vn vl fv rv us ws N L F R) : RdZZ w.heap.size w vn N := h.elN.reads h.rowN fun _ hk => hk.1
/-- what is appended lies in the old block or in a new one -/
theorem Appd.at {b : Nat} {e : TypeId} {size : Nat} {v v' : Value} {n : Nat} {xs : List Value} (h : Appd w w' b e size v v' n xs) : ∀ k, v'.ownBlock = some k → v.ownBlock = some k ∨ w.heap.size ≤ k := fun k hk => by
  rcases h.lies with e | e
  · exact .inl (e ▸ hk)
  · rw [e] at hk
    simp only [Option.some.injEq] at hk
    exact .inr (by omega)
theorem DfSt.off (h : DfSt w0 base w RB DB g wd vn vl fv rv us ws N L F R) {r : R5} (hr : r ∈ rows4 vn vl fv rv us ws N L F R) : r.v.ownBlock ≠ some RB ∧ r.v.ownBlock ≠ some DB :=
  ⟨fun e => h.own.out r hr RB e (.inl rfl), fun e => h.own.out r hr DB e (.inr rfl)⟩
/-- a list is found -/
theorem DfSt.putF (h : DfSt w0 base w RB DB g wd vn vl fv rv us ws N L F R) {fv' u : Value} {t : List Int} (hu : ElR (FarR w (XB RB DB) (rows4 vn vl fv rv us ws N L F R)) w u t) (hA : Appd w w' base 24 1 fv fv' (F.length + 1) (ws ++ [u])) :
    DfSt w0 base w' RB DB g wd vn vl fv' rv us (ws ++ [u]) N L (F ++ [t]) R := by
  have hm : (⟨24, 1, fv, F.length, ws⟩ : R5) ∈ rows4 vn vl fv rv us ws N L F R := by simp [rows4]
  have e : (rows4 vn vl fv rv us ws N L F R).set 2 ⟨24, 1, fv', F.length + 1, ws ++ [u]⟩ = rows4 vn vl fv' rv us (ws ++ [u]) N L (F ++ [t]) R := by simp [rows4]
  have h1 := h.own.grow 2 (by simp [rows4]) ⟨24, 1, fv', F.length + 1, ws ++ [u]⟩ hA.grown hA.own hA.at
  have h2 := StayR.grow (X := XB RB DB) 2 (by simp [rows4]) ⟨24, 1, fv', F.length + 1, ws ++ [u]⟩ (rs := rows4 vn vl fv rv us ws N L F R) hA.grown hA.at
  rw [e] at h1 h2
  exact ⟨h1, h.d.grown hA.grown (h.off hm).2, h.r.grown hA.grown (h.off hm).1, h.ne, h.lo, h.elN.mono h2, (h.elF.mono h2).snoc (hu.mono h2), h.below.grown hA.grown h.sz fun k hk => (h.own.lt hm hk).1, h.size⟩
/-- a number more in the row -/
theorem DfSt.putR (h : DfSt w0 base w RB DB g wd vn vl fv rv us ws N L F R) {rv' : Value} {x : Int} (hA : Appd w w' base 3 1 rv rv' (R.length + 1) (R.map (Value.int .i64) ++ [Value.int IntKind.i64 x])) :
    DfSt w0 base w' RB DB g wd vn vl fv rv' us ws N L F (R ++ [x]) := by
  have hm : (⟨3, 1, rv, R.length, R.map (Value.int .i64)⟩ : R5) ∈ rows4 vn vl fv rv us ws N L F R := by simp [rows4]
  have e : (rows4 vn vl fv rv us ws N L F R).set 3 ⟨3, 1, rv', R.length + 1, R.map (Value.int .i64) ++ [Value.int IntKind.i64 x]⟩ = rows4 vn vl fv rv' us ws N L F (R ++ [x]) := by simp [rows4]
  have h1 := h.own.grow 3 (by simp [rows4]) ⟨3, 1, rv', R.length + 1, R.map (Value.int .i64) ++ [Value.int IntKind.i64 x]⟩ hA.grown hA.own hA.at
  have h2 := StayR.grow (X := XB RB DB) 3 (by simp [rows4]) ⟨3, 1, rv', R.length + 1, R.map (Value.int .i64) ++ [Value.int IntKind.i64 x]⟩ (rs := rows4 vn vl fv rv us ws N L F R) hA.grown hA.at
  rw [e] at h1 h2
  exact ⟨h1, h.d.grown hA.grown (h.off hm).2, h.r.grown hA.grown (h.off hm).1, h.ne, h.lo, h.elN.mono h2, h.elF.mono h2, h.below.grown hA.grown h.sz fun k hk => (h.own.lt hm hk).1, h.size⟩
/-- the row is let go -/
theorem DfSt.dropR (h : DfSt w0 base w RB DB g wd vn vl fv rv us ws N L F R) : DfSt w0 base w RB DB g wd vn vl fv (.slice none 0 0) us ws N L F [] ∧ ElR (FarR w (XB RB DB) (rows4 vn vl fv (.slice none 0 0) us ws N L F [])) w rv R := by
  have e : (rows4 vn vl fv rv us ws N L F R).set 3 ⟨3, 1, .slice none 0 0, 0, []⟩ = rows4 vn vl fv (.slice none 0 0) us ws N L F [] := by simp [rows4]
  have h1 := h.own.drop 3 (by simp [rows4]) 3 1
  have h2 := StayR.drop (w := w) (X := XB RB DB) (rs := rows4 vn vl fv rv us ws N L F R) 3 (by simp [rows4]) 3 1
  rw [e] at h1 h2
  refine ⟨⟨h1, h.d, h.r, h.ne, h.lo, h.elN.mono h2, h.elF.mono h2, h.below, h.size⟩, ?_⟩
  have hr := h.rowR
  rcases hr.2 with ⟨e1, h0⟩ | ⟨b, cap, cur, rfl, hb, hg, k1, k2, k3, k4⟩
  · exact ⟨none, 0, by rw [h0]; exact e1, by omega, by decide, fun _ => rfl, fun hp => by omega⟩
  · refine ⟨some ⟨b, 0, none⟩, cap, rfl, k1, k2, (fun e => by cases e), fun _ => ⟨b, 0, rfl, ?_, fun i hi => ?_⟩⟩
    · have := h.own.far_drop 3 (by simp [rows4]) 3 1 (k := b) rfl
      rwa [e] at this
    · rw [Nat.zero_add, World.ownsRow.cellAt hr i (by omega), List.getElem?_map, List.getD_eq_getElem?_getD, List.getElem?_eq_getElem hi]
      rfl
/-- a new row is begun -/
theorem DfSt.newR (h : DfSt w0 base w RB DB g wd vn vl fv rv us ws N L F R) : DfSt w0 base (w.alloc (.cells #[] 3)) RB DB g wd vn vl fv (.slice (some ⟨w.heap.size, 0, none⟩) 0 0) us ws N L F [] := by
  obtain ⟨h', _⟩ := h.dropR
  have hb : Below w.heap.size w (w.alloc (.cells #[] 3)) := (Below.refl w.heap.size w).alloc (Nat.le_refl _) _
  have hg : w.grownBy (w.alloc (.cells #[] 3)) (Value.slice none 0 0).ownBlock := World.grownBy_alloc w _ _
  have hat : ∀ k, (Value.slice (some ⟨w.heap.size, 0, none⟩) 0 0).ownBlock = some k → (Value.slice none 0 0).ownBlock = some k ∨ w.heap.size ≤ k := fun k hk => by
    simp only [Value.ownBlock, Option.some.injEq] at hk
    exact .inr (by omega)
  have ho := World.ownsRow_made (base := base) (e := 3) (size := 1) w #[] 0 h.sz (by decide) (by simp)
  have e : (rows4 vn vl fv (.slice none 0 0) us ws N L F []).set 3 ⟨3, 1, .slice (some ⟨w.heap.size, 0, none⟩) 0 0, 0, []⟩ = rows4 vn vl fv (.slice (some ⟨w.heap.size, 0, none⟩) 0 0) us ws N L F [] := by simp [rows4]
  have h1 := h'.own.grow 3 (by simp [rows4]) ⟨3, 1, .slice (some ⟨w.heap.size, 0, none⟩) 0 0, 0, []⟩ hg ho hat
  have h2 := StayR.grow (X := XB RB DB) 3 (by simp [rows4]) ⟨3, 1, .slice (some ⟨w.heap.size, 0, none⟩) 0 0, 0, []⟩ (rs := rows4 vn vl fv (.slice none 0 0) us ws N L F []) hg hat
  rw [e] at h1 h2
  exact ⟨h1, h.d.below hb, h.r.below hb, h.ne, h.lo, h'.elN.mono h2, h'.elF.mono h2, below_then h.below h.sz hb, h.size⟩
/-- the row is put behind the machine's rows -/
theorem DfSt.putN (h : DfSt w0 base w RB DB g wd vn vl fv rv us ws N L F R) {u vn' : Value} {t : List Int} (hu : ElR (FarR w (XB RB DB) (rows4 vn vl fv rv us ws N L F R)) w u t) (hA : Appd w w' base 24 1 vn vn' (N.length + 1) (us ++ [u])) :
    DfSt w0 base (w'.setCell ⟨DB, 257, none⟩ vn') RB DB g wd vn' vl fv rv (us ++ [u]) ws (N ++ [t]) L F R := by
  have hm : (⟨24, 1, vn, N.length, us⟩ : R5) ∈ rows4 vn vl fv rv us ws N L F R := by simp [rows4]
  have e : (rows4 vn vl fv rv us ws N L F R).set 0 ⟨24, 1, vn', N.length + 1, us ++ [u]⟩ = rows4 vn' vl fv rv (us ++ [u]) ws (N ++ [t]) L F R := by simp [rows4]
  have h1 := h.own.grow 0 (by simp [rows4]) ⟨24, 1, vn', N.length + 1, us ++ [u]⟩ hA.grown hA.own hA.at
  have h2 := StayR.grow (X := XB RB DB) 0 (by simp [rows4]) ⟨24, 1, vn', N.length + 1, us ++ [u]⟩ (rs := rows4 vn vl fv rv us ws N L F R) hA.grown hA.at
  rw [e] at h1 h2
  have h3 := h2.trans (StayR.store (B := DB) (.inr rfl) 257 vn')
  exact ⟨h1.store (.inr rfl) 257 vn', (h.d.grown hA.grown (h.off hm).2).putNext vn', (h.r.grown hA.grown (h.off hm).1).put _ h.ne, h.ne, h.lo, (h.elN.mono h3).snoc (hu.mono h3), h.elF.mono h3,
    (h.below.grown hA.grown h.sz fun k hk => (h.own.lt hm hk).1).setCell h.lo.2 _, h.size⟩
/-- a label is put behind the machine's labels -/
theorem DfSt.putL (h : DfSt w0 base w RB DB g wd vn vl fv rv us ws N L F R) {vl' : Value} {x : Int} (hA : Appd w w' base 3 1 vl vl' (L.length + 1) (L.map (Value.int .i64) ++ [Value.int IntKind.i64 x])) :
    DfSt w0 base (w'.setCell ⟨DB, 258, none⟩ vl') RB DB g wd vn vl' fv rv us ws N (L ++ [x]) F R := by
  have hm : (⟨3, 1, vl, L.length, L.map (Value.int .i64)⟩ : R5) ∈ rows4 vn vl fv rv us ws N L F R := by simp [rows4]
  have e : (rows4 vn vl fv rv us ws N L F R).set 1 ⟨3, 1, vl', L.length + 1, L.map (Value.int .i64) ++ [Value.int IntKind.i64 x]⟩ = rows4 vn vl' fv rv us ws N (L ++ [x]) F R := by simp [rows4]
  have h1 := h.own.grow 1 (by simp [rows4]) ⟨3, 1, vl', L.length + 1, L.map (Value.int .i64) ++ [Value.int IntKind.i64 x]⟩ hA.grown hA.own hA.at
  have h2 := StayR.grow (X := XB RB DB) 1 (by simp [rows4]) ⟨3, 1, vl', L.length + 1, L.map (Value.int .i64) ++ [Value.int IntKind.i64 x]⟩ (rs := rows4 vn vl fv rv us ws N L F R) hA.grown hA.at
  rw [e] at h1 h2
  have h3 := h2.trans (StayR.store (B := DB) (.inr rfl) 258 vl')
  exact ⟨h1.store (.inr rfl) 258 vl', (h.d.grown hA.grown (h.off hm).2).putLabel vl', (h.r.grown hA.grown (h.off hm).1).put _ h.ne, h.ne, h.lo, h.elN.mono h3, h.elF.mono h3,
    (h.below.grown hA.grown h.sz fun k hk => (h.own.lt hm hk).1).setCell h.lo.2 _, h.size⟩
/-- a list of a call's own is far -/
theorem DfSt.fresh (h : DfSt w0 base w RB DB g wd vn vl fv rv us ws N L F R) {u : Value} {t : List Int} (hr : RowZ w' w.heap.size u t) : ElR (FarR w' (XB RB DB) (rows4 vn vl fv rv us ws N L F R)) w' u t :=
  hr.el.mono fun _ hk => ⟨h.own.far_new (Nat.le_refl _) hk, rfl⟩
/-- the beginning: the empty list is found -/
theorem DfSt.start (hd : DfaAt w DB g wd (.slice none 0 0) (.slice none 0 0)) (hr : DfaAt w RB zG 0 (.slice none 0 0) (.slice none 0 0)) (hne : RB ≠ DB) (hlo : base ≤ RB ∧ base ≤ DB) (hb : Below base w0 w) (hs : base ≤ w0.heap.size) :
    DfSt w0 base ((w.alloc (.cells #[] 3)).alloc (.cells #[.slice (some ⟨w.heap.size, 0, none⟩) 0 0] 24)) RB DB g wd (.slice none 0 0) (.slice none 0 0) (.slice (some ⟨w.heap.size + 1, 0, none⟩) 1 1) (.slice none 0 0) [] [.slice (some ⟨w.heap.size, 0, none⟩) 0 0] [] [] [[]] [] := by
  have hsz : base ≤ w.heap.size := Nat.le_trans hs hb.size
  have hl1 := hd.lt
  have hl2 := hr.lt
  have hrow : ((w.alloc (.cells #[] 3)).alloc (.cells #[.slice (some ⟨w.heap.size, 0, none⟩) 0 0] 24)).ownsRow base 24 1 (.slice (some ⟨w.heap.size + 1, 0, none⟩) 1 1) 1 [.slice (some ⟨w.heap.size, 0, none⟩) 0 0] := by
    have := World.ownsRow_lit (base := base) (e := 24) (size := 1) (w.alloc (.cells #[] 3)) #[.slice (some ⟨w.heap.size, 0, none⟩) 0 0] 1 (by simp; omega) (by decide) (by simp)
    simpa using this
  have hob : ∀ r ∈ rows4 (.slice none 0 0) (.slice none 0 0) (.slice (some ⟨w.heap.size + 1, 0, none⟩) 1 1) (.slice none 0 0) [] [.slice (some ⟨w.heap.size, 0, none⟩) 0 0] [] [] [[]] [], ∀ k, r.v.ownBlock = some k → k = w.heap.size + 1 := by
    intro r hr k hk
    simp only [rows4, List.mem_cons, List.not_mem_nil, or_false] at hr
    rcases hr with rfl | rfl | rfl | rfl <;> simp [Value.ownBlock] at hk
    omega
  refine ⟨⟨?_, ?_, ?_, ?_⟩, (hd.alloc _).alloc _, (hr.alloc _).alloc _, hne, hlo, Els.nil _ _, ⟨rfl, fun i hi => ?_⟩, (hb.alloc hsz _).alloc (by simp; omega) _, hs⟩
  · intro r hr
    simp only [rows4, List.mem_cons, List.not_mem_nil, or_false] at hr
    rcases hr with rfl | rfl | rfl | rfl
    · exact World.ownsRow_nil _ _ _ _
    · exact World.ownsRow_nil _ _ _ _
    · exact hrow
    · exact World.ownsRow_nil _ _ _ _
  · simp [rows4, away, Value.ownBlock]
  · intro r hr k hk hX
    have := hob r hr k hk
    rcases hX with e | e <;> omega
  · intro k hX
    rcases hX with e | e <;> (simp; omega)
  · obtain rfl : i = 0 := by simpa using hi
    exact ⟨_, _, rfl, Nat.le_refl _, by decide, (fun e => by cases e), fun hp => absurd hp (by simp)⟩
end
end Go.Proofs.Ytgaadndhecokfaa

/- The program's way to the lists: a net in which all spots are first and none follows; what follows the spots of a list, sorted; for each class those that have its bytes. -/
namespace Go.Proofs.Ytgaadndhecokfaa
open Go.RowKit

theorem take_snoc {α : Type} (l : List α) (k : Nat) (h : k < l.length) : l.take (k + 1) = l.take k ++ [l[k]] := List.take_succ_eq_append_getElem h
/-- what has been met of those that follow: k spots of the list, and j of those that follow the next one -/
def MetL (N : NetM) (l : List Int) (k j : Nat) (x : Int) : Prop := (∃ i, i < k ∧ x ∈ N.fol.getD (l.getD i 0).toNat []) ∨ x ∈ (N.fol.getD (l.getD k 0).toNat []).take j
theorem MetL.start (N : NetM) (l : List Int) (x : Int) : ¬ MetL N l 0 0 x := by
  rintro (⟨i, h, _⟩ | h)
  · omega
  · simp at h
theorem MetL.more (N : NetM) (l : List Int) (k j : Nat) (hj : j < (N.fol.getD (l.getD k 0).toNat []).length) (x : Int) : MetL N l k (j + 1) x ↔ MetL N l k j x ∨ x = (N.fol.getD (l.getD k 0).toNat []).getD j 0 := by
  unfold MetL
  rw [take_snoc _ _ hj, List.mem_append, List.mem_singleton, ← or_assoc, List.getD_eq_getElem?_getD (l := N.fol.getD (l.getD k 0).toNat []), List.getElem?_eq_getElem hj]
  rfl
theorem MetL.next (N : NetM) (l : List Int) (k : Nat) (x : Int) : MetL N l k (N.fol.getD (l.getD k 0).toNat []).length x ↔ MetL N l (k + 1) 0 x := by
  unfold MetL
  rw [List.take_of_length_le (Nat.le_refl _)]
  constructor
  · rintro (⟨i, h, h2⟩ | h)
    · exact .inl ⟨i, by omega, h2⟩
    · exact .inl ⟨k, by omega, h⟩
  · rintro (⟨i, h, h2⟩ | h)
    · by_cases e : i = k
      · subst e; exact .inr h2
      · exact .inl ⟨i, by omega, h2⟩
    · simp at h
end Go.Proofs.Ytgaadndhecokfaa

/- All blocks but some are kept: the frame of calls that write to blocks that they are handed; a table of rows of the call's own, one a place. -/
namespace Go.Proofs.Ytgaadndhecokfaa
open Go.RowKit Go.Lib Go.Joins

/-- below n all blocks but those of X are kept -/
structure But (n : Nat) (X : Nat → Prop) (w w' : World) : Prop where
  os : w'.os = w.os
  tape : w'.tape = w.tape
  output : w'.output = w.output
  size : w.heap.size ≤ w'.heap.size
  block : ∀ k, k < n → ¬ X k → w'.heap[k]? = w.heap[k]?
section
variable {n m : Nat} {X Y : Nat → Prop} {a b c w w' : World}
theorem But.refl (n : Nat) (X : Nat → Prop) (w : World) : But n X w w := ⟨rfl, rfl, rfl, Nat.le_refl _, fun _ _ _ => rfl⟩
theorem But.trans (h : But n X a b) (k : But n X b c) : But n X a c := ⟨k.os.trans h.os, k.tape.trans h.tape, k.output.trans h.output, Nat.le_trans h.size k.size, fun i hi hx => (k.block i hi hx).trans (h.block i hi hx)⟩
theorem But.mono (h : But n X w w') (hm : m ≤ n) (hX : ∀ k, X k → k < m → Y k) : But m Y w w' := ⟨h.os, h.tape, h.output, h.size, fun k hk hy => h.block k (by omega) fun hx => hy (hX k hx hk)⟩
theorem But.of (h : Below n w w') (X : Nat → Prop) : But n X w w' := ⟨h.os, h.tape, h.output, h.size, fun k hk _ => h.block k hk⟩
theorem But.later (h : But n X a b) (hn : n ≤ b.heap.size) (k : But b.heap.size X b c) : But n X a c := h.trans (k.mono hn fun _ h _ => h)
theorem But.below (h : But n X a b) (hn : n ≤ b.heap.size) (k : Below b.heap.size b c) : But n X a c := h.later hn (But.of k X)
theorem But.alloc (h : But n X a w) (hn : n ≤ w.heap.size) (o : Obj) : But n X a (w.alloc o) := h.below hn ((Below.refl _ w).alloc (Nat.le_refl _) o)
theorem But.store (h : But n X a w) {k : Nat} (hk : X k ∨ n ≤ k) (j : Nat) (u : Value) : But n X a (w.setCell ⟨k, j, none⟩ u) :=
  h.trans ⟨rfl, rfl, rfl, by simp, fun i hi hx => heap_setCell_other _ _ _ _ fun e => by
    rcases hk with hk | hk
    · exact hx (e ▸ hk)
    · have : i = k := e
      omega⟩
theorem But.grown (h : But n X a w) {o : Option Nat} (hg : w.grownBy w' o) (ho : ∀ k, o = some k → X k ∨ n ≤ k) (hn : n ≤ w.heap.size) : But n X a w' :=
  h.trans ⟨hg.os, hg.tape, hg.output, hg.size, fun i hi hx => hg.block i (by omega) fun e => by
    rcases ho i e.symm with hk | hk
    · exact hx hk
    · omega⟩
theorem But.drew (h : But n X a w) : But n X a w.drew := ⟨h.os, h.tape, h.output, h.size, h.block⟩
end
/-- rows, one a place -/
def rowsN {α : Type} (t : TypeId) (f : α → Value) (n : Nat) (us : Nat → Value) (L : Nat → List α) : List R5 := (List.range n).map fun i => ⟨t, 1, us i, (L i).length, (L i).map f⟩
def upd {β : Type} (g : Nat → β) (i : Nat) (x : β) (j : Nat) : β := if j = i then x else g j
theorem upd_same {β : Type} (g : Nat → β) (i : Nat) (x : β) : upd g i x i = x := if_pos rfl
theorem upd_other {β : Type} (g : Nat → β) {i j : Nat} (x : β) (h : j ≠ i) : upd g i x j = g j := if_neg h
section
variable {α : Type} {t : TypeId} {f : α → Value} {n : Nat} {us : Nat → Value} {L L' : Nat → List α}
theorem rowsN_len : (rowsN t f n us L).length = n := by unfold rowsN; simp
theorem rowsN_get {i : Nat} (hi : i < n) : (rowsN t f n us L)[i]'(by rw [rowsN_len]; exact hi) = ⟨t, 1, us i, (L i).length, (L i).map f⟩ := by
  unfold rowsN
  rw [List.getElem_map, List.getElem_range]
theorem rowsN_mem {i : Nat} (hi : i < n) : (⟨t, 1, us i, (L i).length, (L i).map f⟩ : R5) ∈ rowsN t f n us L := by
  unfold rowsN
  exact List.mem_map.2 ⟨i, List.mem_range.2 hi, rfl⟩
theorem rowsN_set {i : Nat} (v : Value) (l : List α) (hL : ∀ j, L' j = if j = i then l else L j) : (rowsN t f n us L).set i ⟨t, 1, v, l.length, l.map f⟩ = rowsN t f n (upd us i v) L' := by
  refine List.ext_getElem (by rw [List.length_set, rowsN_len, rowsN_len]) fun j h1 h2 => ?_
  rw [rowsN_len] at h2
  rw [List.getElem_set, rowsN_get h2]
  by_cases e : i = j
  · subst e
    rw [if_pos rfl, rowsN_get h2, upd_same, hL, if_pos rfl]
  · rw [if_neg e, rowsN_get h2, upd_other _ _ (Ne.symm e), hL, if_neg (Ne.symm e)]
theorem rowsN_congr (h : ∀ j, j < n → L j = L' j) : rowsN t f n us L = rowsN t f n us L' := by
  unfold rowsN
  refine List.map_congr_left fun j hj => ?_
  rw [h j (List.mem_range.1 hj)]
end
/-- a table's cells, one a place -/
def cellsF (n : Nat) (us : Nat → Value) : Array Value := ((List.range n).map us).toArray
theorem cellsF_size (n : Nat) (us : Nat → Value) : (cellsF n us).size = n := by unfold cellsF; simp
theorem cellsF_get {n : Nat} (us : Nat → Value) {i : Nat} (hi : i < n) : (cellsF n us)[i]? = some (us i) := by
  unfold cellsF
  rw [List.getElem?_toArray, List.getElem?_map, List.getElem?_range hi]
  rfl
theorem cellsF_none {n : Nat} (us : Nat → Value) {i : Nat} (hi : n ≤ i) : (cellsF n us)[i]? = none := by
  rw [Array.getElem?_eq_none_iff, cellsF_size]
  exact hi
theorem cellsF_set {n : Nat} (us : Nat → Value) {i : Nat} (v : Value) : (cellsF n us).setIfInBounds i v = cellsF n (upd us i v) := by
  refine Array.ext_getElem? fun j => ?_
  rw [Array.getElem?_setIfInBounds, cellsF_size]
  by_cases hj : j < n
  · rw [cellsF_get _ hj]
    by_cases e : i = j
    · subst e; rw [if_pos rfl, if_pos hj, cellsF_get _ hj, upd_same]
    · rw [if_neg e, cellsF_get _ hj, upd_other _ _ (Ne.symm e)]
  · rw [cellsF_none _ (by omega)]
    by_cases e : i = j
    · subst e; rw [if_pos rfl, if_neg hj, cellsF_none _ (by omega)]
    · rw [if_neg e, cellsF_none _ (by omega)]
def TabAt (w : World) (B : Nat) (t : TypeId) (n : Nat) (us : Nat → Value) : Prop := w.heap[B]? = some (.cells (cellsF n us) t (0, 0))
section
variable {w w' : World} {B : Nat} {t : TypeId} {n : Nat} {us : Nat → Value}
theorem TabAt.lt (h : TabAt w B t n us) : B < w.heap.size := (Array.getElem?_eq_some_iff.1 h).1
theorem TabAt.cell (h : TabAt w B t n us) {i : Nat} (hi : i < n) : w.cell? ⟨B, i, none⟩ = some (us i) := (cell_of_row w B i _ _ _ h).trans (cellsF_get us hi)
theorem TabAt.frozen (h : TabAt w B t n us) (j : Nat) : w.frozen? ⟨B, j, none⟩ = false := frozen_of_row w B j _ _ h
theorem TabAt.at (h : TabAt w B t n us) (he : w'.heap[B]? = w.heap[B]?) : TabAt w' B t n us := he.trans h
theorem TabAt.alloc (h : TabAt w B t n us) (o : Obj) : TabAt (w.alloc o) B t n us := (heap_alloc_old w o h.lt).trans h
theorem TabAt.store (h : TabAt w B t n us) (i : Nat) (v : Value) : TabAt (w.setCell ⟨B, i, none⟩ v) B t n (upd us i v) := by
  unfold TabAt
  rw [heap_setCell_same _ _ _ _ _ _ h, cellsF_set]
theorem TabAt.other (h : TabAt w B t n us) {C j : Nat} (u : Value) (hne : B ≠ C) : TabAt (w.setCell ⟨C, j, none⟩ u) B t n us := (heap_setCell_other _ _ _ _ hne).trans h
theorem TabAt.grown (h : TabAt w B t n us) {o : Option Nat} (hg : w.grownBy w' o) (ho : o ≠ some B) : TabAt w' B t n us := (hg.block B h.lt (Ne.symm ho)).trans h
theorem TabAt.made (w : World) (t : TypeId) (n : Nat) (v : Value) : TabAt (w.alloc (.cells (Array.replicate n v) t)) w.heap.size t n (fun _ => v) := by
  refine (heap_alloc_new w _).trans ?_
  congr 2
  refine Array.ext_getElem? fun j => ?_
  rw [Array.getElem?_replicate]
  by_cases hj : j < n
  · rw [if_pos hj, cellsF_get _ hj]
  · rw [if_neg hj, cellsF_none _ (by omega)]
end
end Go.Proofs.Ytgaadndhecokfaa
