/- DfBld, DfNum, DfPRight, DfPGo, put together. -/
import Derived.Test.YtmpjjnjggihojaaGreatDoorDf28
import Derived.Test.YtmpjjnjggihojaaGreatDoorDf26
import Derived.Maps.OwnSet
import Derived.Test.YtmpjjnjggihojaaGreatDoorDf22
import Derived.Test.YtmpjjnjggihojaaGreatDoorDf14
import Derived.Deep.RegionLaw
/- What build has at hand: a machine, the lists found behind a captured variable, their numbers in a map, a row; frames by the blocks that may change. -/
namespace Go.Proofs.YtmpjjnjggihojaaGreatDoor
open Go.RowKit Go.Lib Go.Joins Go.Maps

theorem ownsRow_same {w w' : World} {base : Nat} {e : TypeId} {size : Nat} {v : Value} {n : Nat} {xs : List Value} (h : w.ownsRow base e size v n xs) (hk : ∀ k, v.ownBlock = some k → w'.heap[k]? = w.heap[k]?) : w'.ownsRow base e size v n xs := by
  refine ⟨h.1, ?_⟩
  rcases h.2 with h1 | ⟨g, cap, cur, rfl, h2, h3, h4⟩
  · exact .inl h1
  · exact .inr ⟨g, cap, cur, rfl, h2, (hk g rfl).trans h3, h4⟩
section
variable {w w' : World} {X : Nat → Prop} {base : Nat} {rs : List R5}
theorem OwnR.growB (h : OwnR w X base rs) (i : Nat) (hi : i < rs.length) (r' : R5) (hb : But w.heap.size (fun k => X k ∨ rs[i].v.ownBlock = some k) w w') (ho : r'.at w' base) (hat : ∀ k, r'.v.ownBlock = some k → rs[i].v.ownBlock = some k ∨ w.heap.size ≤ k) : OwnR w' X base (rs.set i r') := by
  have haw : ∀ j (hj : j < rs.length), j ≠ i → away r'.v rs[j].v := by
    intro j hj hne
    cases hv : r'.v.ownBlock with
    | none => exact .inl hv
    | some k =>
      refine .inr fun e => ?_
      rw [hv] at e
      rcases hat k hv with e2 | e2
      · rcases away_at h.apart i hi j hj (Ne.symm hne) with e3 | e3
        · rw [e2] at e3; cases e3
        · exact e3 (e2.trans e)
      · have := (h.lt (List.getElem_mem hj) e.symm).2
        omega
  refine ⟨?_, ?_, ?_, fun k hk => Nat.lt_of_lt_of_le (h.fixed k hk) hb.size⟩
  · intro r hr
    obtain ⟨j, hj, rfl⟩ := List.getElem_of_mem hr
    rw [List.length_set] at hj
    rw [List.getElem_set]
    by_cases e : i = j
    · rw [if_pos e]; exact ho
    · rw [if_neg e]
      refine ownsRow_same (h.rows _ (List.getElem_mem hj)) fun k hk => hb.block k (h.lt (List.getElem_mem hj) hk).2 fun hX => ?_
      rcases hX with hX | hX
      · exact h.out _ (List.getElem_mem hj) k hk hX
      · rcases away_at h.apart i hi j hj e with e3 | e3
        · rw [hX] at e3; cases e3
        · exact e3 (hX.trans hk.symm)
  · rw [List.pairwise_iff_getElem]
    intro a b ha hb2 hab
    rw [List.length_set] at ha hb2
    rw [List.getElem_set, List.getElem_set]
    by_cases e1 : i = a
    · subst e1
      rw [if_pos rfl, if_neg (by omega)]
      exact haw b hb2 (by omega)
    · rw [if_neg e1]
      by_cases e2 : i = b
      · subst e2
        rw [if_pos rfl]
        exact (haw a ha (by omega)).symm
      · rw [if_neg e2]
        exact away_at h.apart a ha b hb2 (by omega)
  · intro r hr k hk hX
    rcases List.mem_or_eq_of_mem_set hr with hr | rfl
    · exact h.out r hr k hk hX
    · rcases hat k hk with e | e
      · exact h.out _ (List.getElem_mem hi) k e hX
      · have := h.fixed k hX; omega
theorem StayR.growB (i : Nat) (hi : i < rs.length) (r' : R5) (hb : But w.heap.size (fun k => X k ∨ rs[i].v.ownBlock = some k) w w') (hat : ∀ k, r'.v.ownBlock = some k → rs[i].v.ownBlock = some k ∨ w.heap.size ≤ k) : StayR X w rs w' (rs.set i r') := by
  rintro k ⟨h1, h2, h3⟩
  refine ⟨⟨Nat.lt_of_lt_of_le h1 hb.size, h2, fun r hr e => ?_⟩, hb.block k h1 fun hX => ?_⟩
  · rcases List.mem_or_eq_of_mem_set hr with hr | rfl
    · exact h3 r hr e
    · rcases hat k e with e2 | e2
      · exact h3 _ (List.getElem_mem hi) e2
      · omega
  · rcases hX with hX | hX
    · exact h2 hX
    · exact h3 _ (List.getElem_mem hi) hX
theorem OwnR.keptB (h : OwnR w X base rs) (hb : But w.heap.size X w w') : OwnR w' X base rs :=
  ⟨fun r hr => ownsRow_same (h.rows r hr) fun k hk => hb.block k (h.lt hr hk).2 (h.out r hr k hk), h.apart, h.out, fun k hk => Nat.lt_of_lt_of_le (h.fixed k hk) hb.size⟩
theorem StayR.keptB (hb : But w.heap.size X w w') : StayR X w rs w' rs := fun k hk => ⟨⟨Nat.lt_of_lt_of_le hk.1 hb.size, hk.2⟩, hb.block k hk.1 hk.2.1⟩
end
/-- far, and not from before -/
def FarN (base : Nat) (w : World) (X : Nat → Prop) (rs : List R5) (k : Nat) : Prop := FarR w X rs k ∧ base ≤ k
theorem StayR.farN {X : Nat → Prop} {w w' : World} {rs rs' : List R5} (h : StayR X w rs w' rs') (base : Nat) : ∀ k, FarN base w X rs k → FarN base w' X rs' k ∧ w'.heap[k]? = w.heap[k]? := fun k hk => ⟨⟨(h k hk.1).1, hk.2⟩, (h k hk.1).2⟩
/-- the rows that are built, what they read as, and what stays -/
structure Core (X : Nat → Prop) (base : Nat) (w1 : World) (rs0 : List R5) (w : World) (vn vl fv rv : Value) (us ws : List Value) (N : List (List Int)) (L : List Int) (F : List (List Int)) (R : List Int) : Prop where
  own : OwnR w X base (rows4 vn vl fv rv us ws N L F R)
  elN : Els (FarN base w X (rows4 vn vl fv rv us ws N L F R)) w us N
  elF : Els (FarR w X (rows4 vn vl fv rv us ws N L F R)) w ws F
  stay : StayR X w1 rs0 w (rows4 vn vl fv rv us ws N L F R)
section
variable {X : Nat → Prop} {base : Nat} {w1 : World} {rs0 : List R5} {w w' : World} {vn vl fv rv : Value} {us ws : List Value} {N : List (List Int)} {L : List Int} {F : List (List Int)} {R : List Int}
theorem Core.kept (h : Core X base w1 rs0 w vn vl fv rv us ws N L F R) (hb : But w.heap.size X w w') : Core X base w1 rs0 w' vn vl fv rv us ws N L F R :=
  ⟨h.own.keptB hb, h.elN.mono (StayR.farN (StayR.keptB hb) base), h.elF.mono (StayR.keptB hb), h.stay.trans (StayR.keptB hb)⟩
theorem Core.rowN (h : Core X base w1 rs0 w vn vl fv rv us ws N L F R) : w.ownsRow base 23 1 vn N.length us := h.own.rows ⟨23, 1, vn, N.length, us⟩ (by simp [rows4])
theorem Core.rowL (h : Core X base w1 rs0 w vn vl fv rv us ws N L F R) : RowZ w base vl L := h.own.rows ⟨3, 1, vl, L.length, L.map (Value.int .i64)⟩ (by simp [rows4])
theorem Core.rowF (h : Core X base w1 rs0 w vn vl fv rv us ws N L F R) : w.ownsRow base 23 1 fv F.length ws := h.own.rows ⟨23, 1, fv, F.length, ws⟩ (by simp [rows4])
theorem Core.rowR (h : Core X base w1 rs0 w vn vl fv rv us ws N L F R) : RowZ w base rv R := h.own.rows ⟨3, 1, rv, R.length, R.map (Value.int .i64)⟩ (by simp [rows4])
theorem Core.found (h : Core X base w1 rs0 w vn vl fv rv us ws N L F R) : RdZZ w.heap.size w fv F := h.elF.reads h.rowF fun _ hk => hk.1
theorem Core.nexts (h : Core X base w1 rs0 w vn vl fv rv us ws N L F R) : RdZZ w.heap.size w vn N := h.elN.reads h.rowN fun _ hk => hk.1.1
theorem Core.putF (h : Core X base w1 rs0 w vn vl fv rv us ws N L F R) {fv' u : Value} {t : List Int} (hu : ElR (FarR w X (rows4 vn vl fv rv us ws N L F R)) w u t) (hb : But w.heap.size (fun k => X k ∨ fv.ownBlock = some k) w w') (ho : w'.ownsRow base 23 1 fv' (F.length + 1) (ws ++ [u])) (hat : ∀ k, fv'.ownBlock = some k → fv.ownBlock = some k ∨ w.heap.size ≤ k) :
    Core X base w1 rs0 w' vn vl fv' rv us (ws ++ [u]) N L (F ++ [t]) R := by
  have e : (rows4 vn vl fv rv us ws N L F R).set 2 ⟨23, 1, fv', F.length + 1, ws ++ [u]⟩ = rows4 vn vl fv' rv us (ws ++ [u]) N L (F ++ [t]) R := by simp [rows4]
  have h1 := h.own.growB 2 (by simp [rows4]) ⟨23, 1, fv', F.length + 1, ws ++ [u]⟩ hb ho hat
  have h2 := StayR.growB (X := X) 2 (by simp [rows4]) ⟨23, 1, fv', F.length + 1, ws ++ [u]⟩ (rs := rows4 vn vl fv rv us ws N L F R) hb hat
  rw [e] at h1 h2
  exact ⟨h1, h.elN.mono (StayR.farN h2 base), (h.elF.mono h2).snoc (hu.mono h2), h.stay.trans h2⟩
theorem Core.putR (h : Core X base w1 rs0 w vn vl fv rv us ws N L F R) {rv' : Value} {x : Int} (hb : But w.heap.size (fun k => X k ∨ rv.ownBlock = some k) w w') (ho : w'.ownsRow base 3 1 rv' (R.length + 1) (R.map (Value.int .i64) ++ [Value.int IntKind.i64 x])) (hat : ∀ k, rv'.ownBlock = some k → rv.ownBlock = some k ∨ w.heap.size ≤ k) :
    Core X base w1 rs0 w' vn vl fv rv' us ws N L F (R ++ [x]) := by
  have e : (rows4 vn vl fv rv us ws N L F R).set 3 ⟨3, 1, rv', R.length + 1, R.map (Value.int .i64) ++ [Value.int IntKind.i64 x]⟩ = rows4 vn vl fv rv' us ws N L F (R ++ [x]) := by simp [rows4]
  have h1 := h.own.growB 3 (by simp [rows4]) ⟨3, 1, rv', R.length + 1, R.map (Value.int .i64) ++ [Value.int IntKind.i64 x]⟩ hb ho hat
  have h2 := StayR.growB (X := X) 3 (by simp [rows4]) ⟨3, 1, rv', R.length + 1, R.map (Value.int .i64) ++ [Value.int IntKind.i64 x]⟩ (rs := rows4 vn vl fv rv us ws N L F R) hb hat
  rw [e] at h1 h2
  exact ⟨h1, h.elN.mono (StayR.farN h2 base), h.elF.mono h2, h.stay.trans h2⟩
theorem Core.putL (h : Core X base w1 rs0 w vn vl fv rv us ws N L F R) {vl' : Value} {x : Int} (hb : But w.heap.size (fun k => X k ∨ vl.ownBlock = some k) w w') (ho : w'.ownsRow base 3 1 vl' (L.length + 1) (L.map (Value.int .i64) ++ [Value.int IntKind.i64 x])) (hat : ∀ k, vl'.ownBlock = some k → vl.ownBlock = some k ∨ w.heap.size ≤ k) :
    Core X base w1 rs0 w' vn vl' fv rv us ws N (L ++ [x]) F R := by
  have e : (rows4 vn vl fv rv us ws N L F R).set 1 ⟨3, 1, vl', L.length + 1, L.map (Value.int .i64) ++ [Value.int IntKind.i64 x]⟩ = rows4 vn vl' fv rv us ws N (L ++ [x]) F R := by simp [rows4]
  have h1 := h.own.growB 1 (by simp [rows4]) ⟨3, 1, vl', L.length + 1, L.map (Value.int .i64) ++ [Value.int IntKind.i64 x]⟩ hb ho hat
  have h2 := StayR.growB (X := X) 1 (by simp [rows4]) ⟨3, 1, vl', L.length + 1, L.map (Value.int .i64) ++ [Value.int IntKind.i64 x]⟩ (rs := rows4 vn vl fv rv us ws N L F R) hb hat
  rw [e] at h1 h2
  exact ⟨h1, h.elN.mono (StayR.farN h2 base), h.elF.mono h2, h.stay.trans h2⟩
theorem Core.putN (h : Core X base w1 rs0 w vn vl fv rv us ws N L F R) {vn' u : Value} {t : List Int} (hu : ElR (FarN base w X (rows4 vn vl fv rv us ws N L F R)) w u t) (hb : But w.heap.size (fun k => X k ∨ vn.ownBlock = some k) w w') (ho : w'.ownsRow base 23 1 vn' (N.length + 1) (us ++ [u])) (hat : ∀ k, vn'.ownBlock = some k → vn.ownBlock = some k ∨ w.heap.size ≤ k) :
    Core X base w1 rs0 w' vn' vl fv rv (us ++ [u]) ws (N ++ [t]) L F R := by
  have e : (rows4 vn vl fv rv us ws N L F R).set 0 ⟨23, 1, vn', N.length + 1, us ++ [u]⟩ = rows4 vn' vl fv rv (us ++ [u]) ws (N ++ [t]) L F R := by simp [rows4]
  have h1 := h.own.growB 0 (by simp [rows4]) ⟨23, 1, vn', N.length + 1, us ++ [u]⟩ hb ho hat
  have h2 := StayR.growB (X := X) 0 (by simp [rows4]) ⟨23, 1, vn', N.length + 1, us ++ [u]⟩ (rs := rows4 vn vl fv rv us ws N L F R) hb hat
  rw [e] at h1 h2
  exact ⟨h1, (h.elN.mono (StayR.farN h2 base)).snoc (hu.mono (StayR.farN h2 base)), h.elF.mono h2, h.stay.trans h2⟩
/-- the row is let go -/
theorem Core.dropR (h : Core X base w1 rs0 w vn vl fv rv us ws N L F R) : Core X base w1 rs0 w vn vl fv (.slice none 0 0) us ws N L F [] ∧ ElR (FarN base w X (rows4 vn vl fv (.slice none 0 0) us ws N L F [])) w rv R := by
  have e : (rows4 vn vl fv rv us ws N L F R).set 3 ⟨3, 1, .slice none 0 0, 0, []⟩ = rows4 vn vl fv (.slice none 0 0) us ws N L F [] := by simp [rows4]
  have h1 := h.own.drop 3 (by simp [rows4]) 3 1
  have h2 := StayR.drop (w := w) (X := X) (rs := rows4 vn vl fv rv us ws N L F R) 3 (by simp [rows4]) 3 1
  rw [e] at h1 h2
  refine ⟨⟨h1, h.elN.mono (StayR.farN h2 base), h.elF.mono h2, h.stay.trans h2⟩, ?_⟩
  have hr := h.rowR
  rcases hr.2 with ⟨e1, h0⟩ | ⟨b, cap, cur, rfl, hb, hg, k1, k2, k3, k4⟩
  · exact ⟨none, 0, by rw [h0]; exact e1, by omega, by decide, fun _ => rfl, fun hp => by omega⟩
  · refine ⟨some ⟨b, 0, none⟩, cap, rfl, k1, k2, (fun e => by cases e), fun _ => ⟨b, 0, rfl, ?_, fun i hi => ?_⟩⟩
    · have := h.own.far_drop 3 (by simp [rows4]) 3 1 (k := b) rfl
      rw [e] at this
      exact ⟨this, hb⟩
    · rw [Nat.zero_add, World.ownsRow.cellAt hr i (by omega), List.getElem?_map, List.getD_eq_getElem?_getD, List.getElem?_eq_getElem hi]
      rfl
end
/-- the map of the numbers of the lists found -/
def kt (t : List Int) : Lit := .string (keyV t)
theorem kt_key (t : List Int) : WideAt.IsKeyLit (kt t) := trivial
theorem kt_inj {s t : List Int} (h : kt s = kt t) : s = t := key_inj (Lit.string.inj h)
structure MapN (D : DataW Unit) (F : List (List Int)) : Prop where
  has : ∀ t, t ≠ [] → (Maps.has D (kt t) = true ↔ t ∈ F)
  look : ∀ t, t ≠ [] → t ∈ F → D.atKey (kt t) (.lit (.int .i64 0)) = .lit (.int .i64 (findI t F 0))
theorem MapN.start : MapN (.map []) [[]] :=
  ⟨fun t ht => ⟨fun h => by simp [Maps.has_eq] at h, fun h => by simp at h; exact absurd h ht⟩, fun t ht h => by simp at h; exact absurd h ht⟩
theorem findI_snoc : ∀ (t x : List Int) (F : List (List Int)) (k : Nat), (t ∈ F → findI t (F ++ [x]) k = findI t F k) ∧ (t ∉ F → findI t (F ++ [x]) k = if x = t then ((k + F.length : Nat) : Int) else -1)
  | t, x, [], k => ⟨fun h => by simp at h, fun _ => by
      rw [List.nil_append, findI]
      split
      · simp
      · rfl⟩
  | t, x, y :: F, k => by
    obtain ⟨h1, h2⟩ := findI_snoc t x F (k + 1)
    rw [List.cons_append]
    refine ⟨fun h => ?_, fun h => ?_⟩
    · rw [findI, findI]
      split
      · rfl
      · rename_i hy
        exact h1 ((List.mem_cons.1 h).resolve_left fun e => hy e.symm)
    · rw [findI, if_neg (fun e => h (by rw [e]; simp)), h2 (fun e => h (List.mem_cons_of_mem _ e))]
      split
      · rw [List.length_cons]
        congr 1
        omega
      · rfl
theorem MapN.fresh {D : DataW Unit} {F : List (List Int)} (h : MapN D F) (ht : Maps.Tidy D) {t : List Int} (hn : t ≠ []) (hF : t ∉ F) : MapN (D.put (kt t) (.lit (.int .i64 (F.length : Int)))) (F ++ [t]) := by
  refine ⟨fun s hs => ?_, fun s hs hm => ?_⟩
  · by_cases e : s = t
    · subst e
      rw [Maps.has_put_same ht.isMap (kt_key _)]
      simp
    · rw [Maps.has_put_other (fun h2 => e (kt_inj h2)), h.has s hs]
      simp [e]
  · by_cases e : s = t
    · subst e
      rw [Maps.atKey_put_same ht.isMap (kt_key _), (findI_snoc s s F 0).2 hF, if_pos rfl]
      simp
    · have hm2 : s ∈ F := by
        rcases List.mem_append.1 hm with hm | hm
        · exact hm
        · simp at hm; exact absurd hm e
      rw [Maps.atKey_put_other (fun h2 => e (kt_inj h2)), (findI_snoc s t F 0).1 hm2]
      exact h.look s hs hm2
end Go.Proofs.YtmpjjnjggihojaaGreatDoor

/- Contract of build's closure: the number of a list, a new one if it was not found before. -/
namespace Go.Proofs.YtmpjjnjggihojaaGreatDoor
open Go.RowKit Go.Lib Go.Joins Go.Maps

theorem strK : Keyed Tryz.prog 9 := string_keyed Tryz.underlying9
theorem keyOf_t {t : List Int} (h : (keyV t).length ≤ maxLen) : keyOf Tryz.prog 9 (.string ⟨(keyV t).toArray⟩) = some (kt t) :=
  Go.WideMaps.keyOf_string_mk Tryz.underlying9 (show (ByteArray.mk (keyV t).toArray).size ≤ maxLen from by
    show (keyV t).toArray.size ≤ maxLen
    rw [List.size_toArray]
    exact h)
/-- what the closure answers and leaves -/
def NumR (w : World) (FB MB base : Nat) (fv u : Value) (ws : List Value) (F : List (List Int)) (t : List Int) (nb : Nat) (e : Ending) (w' : World) : Prop :=
  (∃ x : Int, e = .returned (.int .i64 x) ∧ ((t = [] ∧ x = -1) ∨ (t ≠ [] ∧ t ∈ F ∧ x = findI t F 0)) ∧ Below w.heap.size w w') ∨
  (t ≠ [] ∧ t ∉ F ∧ e = .returned (.int .i64 (F.length : Int)) ∧ ∃ fv' D', Boxed w' FB 25 fv' ∧ w'.ownsMap (H := Unit) Tryz.prog 9 (plainElem Tryz.prog 3) MB (nb + 1) D' ∧ MapN D' (F ++ [t]) ∧ w'.ownsRow base 23 1 fv' (F.length + 1) (ws ++ [u]) ∧
    (∀ k, fv'.ownBlock = some k → fv.ownBlock = some k ∨ w.heap.size ≤ k) ∧ But w.heap.size (fun k => k = FB ∨ k = MB ∨ fv.ownBlock = some k) w w')
set_option maxHeartbeats 8000000 in
set_option maxRecDepth 100000 in
theorem numb14_calls {w : World} {FB NB MB base nb : Nat} {fv u : Value} {ws : List Value} {F : List (List Int)} {t : List Int} {D : DataW Unit} (hf : Boxed w FB 25 fv) (hn : Boxed w NB 81 (.map (some MB))) (hm : w.ownsMap (H := Unit) Tryz.prog 9 (plainElem Tryz.prog 3) MB nb D) (hM : MapN D F) (hnb : nb ≤ 100000)
    (hr : w.ownsRow base 23 1 fv F.length ws) (hF : F.length ≤ 100000) (hbase : base ≤ w.heap.size) (hu : RdZ w.heap.size w u t) (htl : t.length ≤ 1000) (htf : ∀ x ∈ t, -9223372036854775808 ≤ x ∧ x ≤ 9223372036854775807) (hp : Pow w)
    (hoF : fv.ownBlock ≠ some FB) (hoM : fv.ownBlock ≠ some MB) (hne : FB ≠ MB ∧ NB ≠ MB ∧ NB ≠ FB) (hoN : fv.ownBlock ≠ some NB) :
    Calls Tryz.prog 52 #[u, .pointer (some ⟨NB, 0, none⟩), .pointer (some ⟨FB, 0, none⟩)] w (NumR w FB MB base fv u ws F t nb) := by
  have HKEY := hidden (key_calls w u t hu htl htf hp)
  have hkl := key_len htf
  have hkey := keyOf_t (t := t) (by unfold maxLen; omega)
  obtain ⟨au, cu, rfl⟩ := hu.form
  obtain ⟨af, cf, rfl⟩ := row_slice14 hr
  obtain ⟨n, hnn⟩ : ∃ n, n = F.length := ⟨_, rfl⟩
  obtain ⟨tl, htll⟩ : ∃ n, n = t.length := ⟨_, rfl⟩
  have HN := hidden hnn
  have HTL := hidden htll
  rw [← hnn] at hf hr hF hoF hoM hoN ⊢
  rw [← htll] at HKEY ⊢
  have HF0 := hidden hf
  have HN0 := hidden hn
  have HM0 := hidden hm
  have HMN := hidden hM
  have HR0 := hidden hr
  have HNE := hidden hne
  have HO := hidden (And.intro hoF (And.intro hoM hoN))
  have HBASE := hidden hbase
  clear hf hn hm hM hr hu htf hp hoF hoM hoN hne hnn htll htl hkl hbase
  unfold NumR
  go_enter Tryz.func52, Tryz.ntmps52
  by_cases ht : t = []
  · have hz : tl = 0 := by rw [HTL.out, ht]; rfl
    have q1 : ((tl : Int) == 0) = true := by simp [hz]
    have q2 : decide ((tl : Int) = 0) = true := by simp [hz]
    have HT := hidden ht
    clear ht hz
    go_wp2
    go_ret
    exact .inl ⟨-1, rfl, .inl ⟨HT.out, rfl⟩, Below.refl _ _⟩
  have hz : tl ≠ 0 := by
    rw [HTL.out]
    intro e
    exact ht (List.eq_nil_of_length_eq_zero e)
  have q1 : ((tl : Int) == 0) = false := by simp [hz]
  have q2 : decide ((tl : Int) = 0) = false := by simp [hz]
  have HT := hidden ht
  clear ht hz
  go_wp2_with fail
  refine HKEY.out.mono ?_
  rintro e w2 ⟨rfl, hb2⟩
  have HB2 := hidden hb2
  have HF2 := hidden (show Boxed w2 FB 25 (.slice af n cf) from (hb2.block _ HF0.out.lt).trans HF0.out)
  have HN2 := hidden (show Boxed w2 NB 81 (.map (some MB)) from (hb2.block _ HN0.out.lt).trans HN0.out)
  have HM2 := hidden (HM0.out.kept (row := none) ⟨hb2.os, hb2.tape, hb2.output, hb2.size, fun k hk _ => hb2.block k hk⟩ (by simp))
  have c1 := HF2.out.cell
  have c2 := HN2.out.cell
  clear hb2 q1 q2 HKEY
  by_cases hin : t ∈ F
  · have hhas : Maps.has D (kt t) = true := (HMN.out.has t HT.out).2 hin
    have HAT := hidden (HMN.out.look t HT.out hin)
    have HIN := hidden hin
    clear hin
    obtain ⟨x, hx⟩ : ∃ x, x = findI t F 0 := ⟨_, rfl⟩
    have HX := hidden hx
    rw [← hx] at HAT
    clear hx
    go_wp2_with (at_lookup; refine wpList_lookup_own_ok_int _ rfl _ _ 81 rfl 9 3 .i64 strK Tryz.underlying81 Tryz.underlying3 (zeroInt _) MB nb D rfl HM2.out _ _ rfl hkey ?_; intro c hat hwc; obtain rfl : c = x := (by have h1 := hat.symm.trans HAT.out; simpa using h1))
    go_ret
    exact .inl ⟨_, rfl, .inr ⟨HT.out, HIN.out, HX.out⟩, HB2.out⟩
  · have hhas : Maps.has D (kt t) = false := by
      rw [Bool.eq_false_iff]
      exact fun h => hin ((HMN.out.has t HT.out).1 h)
    have HMN2 := hidden (HMN.out.fresh (HM2.out.tidy strK) HT.out hin)
    rw [← HN.out] at HMN2
    have HIN := hidden hin
    have hwf : (Lit.int .i64 (n : Int)).wf = true := WalkArith.wf_i64 (by omega)
    have HI := hidden infoZZ
    have HLN := hidden (show n + 1 ≤ 1000000 by omega)
    have HNBB := hidden (show nb < maxLen by unfold maxLen; omega)
    clear hin
    go_wp2_with (first
      | (at_lookup; refine wpList_lookup_own_ok_int _ rfl _ _ 81 rfl 9 3 .i64 strK Tryz.underlying81 Tryz.underlying3 (zeroInt _) MB nb D rfl HM2.out _ _ rfl hkey ?_; intro c hat hwc; clear hat hwc)
      | (at_mapUpdate; refine wpList_mapUpdate_own _ rfl _ _ _ 81 rfl 9 3 strK Tryz.underlying81 (plainElem (H := Unit) Tryz.prog 3) MB nb D rfl HM2.out HNBB.out _ _ _ rfl rfl hkey _ [] (plainElem_int Tryz.underlying3 hwf) ?_; intro w3 hown3 hgrow3; have HM3 := hidden hown3; have HG3 := hidden hgrow3; have HF3 := hidden (HF2.out.kept hgrow3 (by have := HNE.out.1; simp; omega)); have HR3 := hidden (ownsRow_same (w' := w3.alloc (.cells #[.slice au tl cu] 23)) HR0.out (fun k hk => (heap_alloc_old _ _ (Nat.lt_of_lt_of_le (Nat.lt_of_lt_of_le (HR0.out.lt k hk).2 HB2.out.size) hgrow3.size)).trans ((hgrow3.block k (Nat.lt_of_lt_of_le (HR0.out.lt k hk).2 HB2.out.size) (by intro e; exact HO.out.2.1 (hk.trans e))).trans (HB2.out.block k (HR0.out.lt k hk).2)))); have c3 := HF3.out.cell; have HBS := hidden (show base ≤ (w3.alloc (.cells #[.slice au tl cu] 23)).heap.size from Nat.le_trans HBASE.out (Nat.le_trans HB2.out.size (Nat.le_trans hgrow3.size (by simp)))); clear hown3 hgrow3)
      | (at_builtin; refine wpList_app (v := .slice af n cf) rfl _ _ rfl HI.out Tryz.underlying25 rfl (by decide) (by decide) rfl HR3.out rfl (Src.one w3 (.slice au tl cu) 23 _ rfl) (by simp) (by simp [Value.oneCell']) HLN.out HBS.out ?_; intro v5 w5 hA5; have HA5 := hidden hA5; have HF5 := hidden ((HF3.out.alloc (.cells #[.slice au tl cu] 23)).kept hA5.grown (Ne.symm HO.out.1)); have c5 := HF5.out.cell; have f5 := HF5.out.frozen; obtain ⟨a5, cc5, hv5⟩ := row_slice14 hA5.own; subst hv5; clear hA5))
    go_ret
    have hA := HA5.out
    have hs2 := HB2.out.size
    have hs3 := HG3.out.size
    have hFl := HF0.out.lt
    have hat : ∀ k, (Value.slice a5 (n + 1) cc5).ownBlock = some k → (Value.slice af n cf).ownBlock = some k ∨ w.heap.size ≤ k := fun k hk => by
      rcases hA.at k hk with e | e
      · exact .inl e
      · refine .inr ?_
        simp at e
        omega
    have hb : But w.heap.size (fun k => k = FB ∨ k = MB ∨ (Value.slice af n cf).ownBlock = some k) w w5 :=
      (((But.of HB2.out _).grown HG3.out (fun k e => .inl (.inr (.inl (Option.some.inj e).symm))) hs2).alloc (by omega) (.cells #[.slice au tl cu] 23)).grown hA.grown (fun k e => .inl (.inr (.inr e))) (by simp; omega)
    rw [← HN.out]
    refine .inr ⟨HT.out, HIN.out, rfl, _, _, HF5.out.set _, ((HM3.out.alloc _).kept hA.grown (fun e => HO.out.2.1 e.symm)).setCell (Ne.symm HNE.out.1) _, HMN2.out, ownsRow_same hA.own fun k hk => heap_setCell_other _ _ _ _ fun e => ?_, hat, hb.store (.inl (.inl rfl)) 0 _⟩
    have e2 : k = FB := e
    subst e2
    rcases hat k hk with e | e
    · exact HO.out.1 e
    · omega
end Go.Proofs.YtmpjjnjggihojaaGreatDoor

/- Contracts of the program's isRow and Right of a machine. -/
namespace Go.Proofs.YtmpjjnjggihojaaGreatDoor
open Go.RowKit

def entP (n : Nat) (x : Int) : Bool := decide (-1 ≤ x) && decide (x < n)
def rowP (l : List Int) (wd : Int) (n : Nat) : Bool := decide ((l.length : Int) = wd) && l.all (entP n)
set_option maxHeartbeats 2000000 in
set_option maxRecDepth 100000 in
theorem isRow_calls {w : World} {v : Value} {l : List Int} (wd : Int) (n : Nat) (h : RdZ w.heap.size w v l) :
    Calls Tryz.prog 37 #[v, .int .i64 wd, .int .i64 n] w fun e w' => e = .returned (.bool (rowP l wd n)) ∧ Below w.heap.size w w' := by
  obtain ⟨a, c, rfl⟩ := h.form
  have hb : l.length ≤ 9223372036854775807 := by
    obtain ⟨_, _, e, h1, h2, _⟩ := h
    unfold maxLen at h2
    omega
  have HA := hidden (fun i (hi : i < l.length) => h.atZ (Below.refl _ _) i hi)
  have HE := hidden (fun i (hi : i < l.length) (he : entP n (l.getD i 0) = false) => (show l.all (entP n) = false from by
    rw [List.all_eq_false]
    refine ⟨l.getD i 0, ?_, by rw [he]; decide⟩
    rw [List.getD_eq_getElem?_getD, List.getElem?_eq_getElem hi]
    exact List.getElem_mem hi))
  have HAL := hidden (show (∀ i, i < l.length → entP n (l.getD i 0) = true) → l.all (entP n) = true from fun h => by
    rw [List.all_eq_true]
    intro x hx
    obtain ⟨i, hi, rfl⟩ := List.getElem_of_mem hx
    have := h i hi
    rwa [List.getD_eq_getElem?_getD, List.getElem?_eq_getElem hi] at this)
  have HR := hidden (show rowP l wd n = (decide ((l.length : Int) = wd) && l.all (entP n)) from rfl)
  obtain ⟨m, hm⟩ : ∃ m, m = l.length := ⟨_, rfl⟩
  rw [← hm] at HA HE HAL HR hb ⊢
  clear h hm
  by_cases hw : (m : Int) = wd
  case neg =>
    have hq : decide ((m : Int) = wd) = false := decide_eq_false hw
    have hq2 : ((m : Int) == wd) = false := by simpa using hw
    rw [hq, Bool.false_and] at HR
    clear hw
    go_enter Tryz.func37, Tryz.ntmps37
    go_wp2
    go_ret
    exact ⟨ret_b HR.out.symm, Below.refl _ _⟩
  have hq : decide ((m : Int) = wd) = true := decide_eq_true hw
  have hq2 : ((m : Int) == wd) = true := by simpa using hw
  rw [hq, Bool.true_and] at HR
  subst hw
  clear hq
  go_enter Tryz.func37, Tryz.ntmps37
  go_wp2
  go_loopw [15] (fun i wr => ∃ k : Nat, k ≤ m ∧ i = .int .i64 k ∧ Hid (∀ j, j < k → entP n (l.getD j 0) = true) ∧ wr = w) (fun i _ => m - (Go.RowKit.intOf i).toNat)
  case atStart => exact ⟨0, by omega, rfl, hidden fun j hj => by omega, rfl⟩
  case round =>
    obtain ⟨k, hk, rfl, hA, rfl⟩ := hrel
    by_cases hlt : k < m
    · obtain ⟨b, off, rfl, _, d0⟩ := HA.out k hlt
      have HEN := hidden (show entP n (l.getD k 0) = (decide (-1 ≤ l.getD k 0) && decide (l.getD k 0 < n)) from rfl)
      have HEX := hidden (HE.out k hlt)
      obtain ⟨x, hx⟩ : ∃ x, x = l.getD k 0 := ⟨_, rfl⟩
      have HX := hidden hx
      rw [← hx] at d0 HEN HEX
      clear hx
      by_cases h1 : x < -1
      · have HF := hidden (HEX.out (by rw [HEN.out, decide_eq_false (by omega)]; rfl))
        go_wp2
        go_ret
        exact ⟨ret_b (HR.out.trans HF.out).symm, Below.refl _ _⟩
      · by_cases h2 : x < (n : Int)
        · have HT := hidden (show entP n x = true by rw [HEN.out, decide_eq_true (by omega), decide_eq_true h2]; rfl)
          have hq3 : decide ((n : Int) ≤ x) = false := decide_eq_false (by omega)
          go_wp2
          go_roundw
          case rel =>
            refine ⟨k + 1, by omega, by go_num, hidden fun j hj => ?_, trivial⟩
            by_cases e : j = k
            · subst e; rw [← HX.out]; exact HT.out
            · exact hA.out j (by omega)
          case measure => simp [Go.RowKit.intOf]; omega
        · have HF := hidden (HEX.out (by rw [HEN.out, decide_eq_false h2, Bool.and_false]))
          have hq3 : decide ((n : Int) ≤ x) = true := decide_eq_true (by omega)
          go_wp2
          go_ret
          exact ⟨ret_b (HR.out.trans HF.out).symm, Below.refl _ _⟩
    · obtain rfl : k = m := by omega
      have HF := hidden (HAL.out hA.out)
      go_wp2
      go_ret
      exact ⟨ret_b (HR.out.trans HF.out).symm, Below.refl _ _⟩
theorem rowOk_p (D : DfaM) (i : Nat) : rowOk D i = (decide (-1 ≤ D.label.getD i 0) && rowP (D.next.getD i []) D.width D.next.length) := by
  unfold rowOk rowP
  have e : entB D = entP D.next.length := rfl
  rw [e]
  cases decide (((D.next.getD i []).length : Int) = D.width) <;> simp
set_option maxHeartbeats 4000000 in
set_option maxRecDepth 100000 in
theorem right14_calls {w : World} {vn vl : Value} {D : DfaM} (h : RdDfa w.heap.size w vn vl D) :
    Calls Tryz.prog 12 #[dfaA D.cls D.width vn vl] w fun e w' => e = .returned (.bool (rightD D)) ∧ Below w.heap.size w w' := by
  obtain ⟨an, cn, rfl⟩ := h.next.form
  obtain ⟨al, cl, rfl⟩ := h.label.form
  have hbn : D.next.length ≤ 9223372036854775807 := by
    obtain ⟨_, _, e, h1, h2, _⟩ := h.next
    unfold maxLen at h2
    omega
  have HROW := hidden (fun i => rowOk_p D i)
  have HRF := hidden (fun i (hi : i < D.next.length) (hf : rowOk D i = false) => rightD_row hi hf)
  have HRA := hidden (fun (h1 : headOk D = true) (h2 : ∀ i, i < D.next.length → rowOk D i = true) => rightD_all h1 h2)
  obtain ⟨n, hn⟩ : ∃ n, n = D.next.length := ⟨_, rfl⟩
  obtain ⟨m, hm⟩ : ∃ m, m = D.label.length := ⟨_, rfl⟩
  rw [← hn] at hbn h HROW HRF HRA ⊢
  rw [← hm] at h ⊢
  have HN := hidden hn
  have HM := hidden hm
  have HD := hidden h
  have HX := hidden (DfaAt.new w D.cls D.width (.slice an n cn) (.slice al m cl))
  have HB0 := hidden ((Below.refl w.heap.size w).alloc (Nat.le_refl _) (.cells (dfaC D.cls D.width (.slice an n cn) (.slice al m cl)) 32))
  have hbx := run_box_dfa D.cls D.width (.slice an n cn) (.slice al m cl)
  clear h hn hm
  go_enter Tryz.func12, Tryz.ntmps12
  go_wp2
  obtain ⟨w0, hw0⟩ : ∃ w0, w0 = w.alloc (.cells (dfaC D.cls D.width (.slice an n cn) (.slice al m cl)) 32) := ⟨_, rfl⟩
  rw [← hw0] at HX HB0 ⊢
  have hz0 : w.heap.size < w0.heap.size := by rw [hw0]; simp
  clear hw0
  have HL := hidden (show ∀ w', (∃ p : Later w0, w' = p.at') → (loadVar 30 ⟨w.heap.size, 0, none⟩).run Tryz.prog w' = .ok (ar D.cls) w' from fun w' ⟨p, e⟩ => by subst e; exact run_load_cls (HX.out.below p.ok))
  have c1 := fun (p : Later w0) => Later.cell HX.out.width hz0 p
  have HR := hidden (fun w' => kright_calls D.cls w' HD.out.small)
  have HV := hidden (fun w' => width_calls D.cls w' HD.out.small)
  obtain ⟨nn, hnn⟩ : ∃ nn, nn = wid D.cls 256 := ⟨_, rfl⟩
  rw [← hnn] at HV
  obtain ⟨r1, hr1⟩ : ∃ r, r = rightV D.cls := ⟨_, rfl⟩
  rw [← hr1] at HR
  have HH := hidden (show headOk D = (r1 && (decide (D.width = (nn : Int)) && (decide (n ≠ 0) && decide (m = n)))) from by unfold headOk; rw [hr1, hnn, HN.out, HM.out])
  clear hr1 hnn
  cases r1 with
  | false =>
    have HF := hidden (show rightD D = false by unfold rightD; rw [HH.out]; rfl)
    clear HH
    refine wp_region_later (by kernel_rfl) (by kernel_rfl) ?_
    repeat (first
      | (go_big_quiet_want; (first | (refine quiet_load (x := .tmp 5) rfl rfl HL.out ?_) | (refine quiet_load (x := .tmp 12) rfl rfl HL.out ?_)); simp only [Act.put, List.setIfInBounds_toArray, List.set_cons_zero, List.set_cons_succ]; go_big_quiet_on)
      | go_big_quiet_step ((first | (go_at_call 35; exact Later.calls (HR.out _)) | (go_at_call 36; exact Later.calls (HV.out _)))))
    refine wpQuiet_nil ?_
    rintro _ ⟨⟨_, hb1⟩, rfl⟩
    rename_i w1
    go_wp2
    go_ret
    exact ⟨ret_b HF.out.symm, below_then HB0.out HB0.out.size hb1⟩
  | true =>
    by_cases k2 : D.width = (nn : Int)
    case neg =>
      have HF := hidden (show rightD D = false by unfold rightD; rw [HH.out, decide_eq_false k2]; rfl)
      have q2 : (D.width == (nn : Int)) = false := by simp [k2]
      have q2' : (D.width != (nn : Int)) = true := by simp [k2]
      have k2H := hidden k2
      clear HH k2
      refine wp_region_later (by kernel_rfl) (by kernel_rfl) ?_
      repeat (first
        | (go_big_quiet_want; (first | (refine quiet_load (x := .tmp 5) rfl rfl HL.out ?_) | (refine quiet_load (x := .tmp 12) rfl rfl HL.out ?_)); simp only [Act.put, List.setIfInBounds_toArray, List.set_cons_zero, List.set_cons_succ]; go_big_quiet_on)
        | go_big_quiet_step ((first | (go_at_call 35; exact Later.calls (HR.out _)) | (go_at_call 36; exact Later.calls (HV.out _)))))
      refine wpQuiet_nil ?_
      rintro _ ⟨⟨_, hb1⟩, rfl⟩
      rename_i w1
      go_wp2
      go_ret
      exact ⟨ret_b HF.out.symm, below_then HB0.out HB0.out.size hb1⟩
    have q2 : (D.width == (nn : Int)) = true := by simp [k2]
    have q2' : (D.width != (nn : Int)) = false := by simp [k2]
    have k2H := hidden k2
    rw [decide_eq_true k2, Bool.true_and, Bool.true_and] at HH
    clear k2
    refine wp_region_later (by kernel_rfl) (by kernel_rfl) ?_
    repeat (first
      | (go_big_quiet_want; (first | (refine quiet_load (x := .tmp 5) rfl rfl HL.out ?_) | (refine quiet_load (x := .tmp 12) rfl rfl HL.out ?_)); simp only [Act.put, List.setIfInBounds_toArray, List.set_cons_zero, List.set_cons_succ]; go_big_quiet_on)
      | go_big_quiet_step ((first | (go_at_call 35; exact Later.calls (HR.out _)) | (go_at_call 36; exact Later.calls (HV.out _)))))
    refine wpQuiet_nil ?_
    rintro _ ⟨⟨_, hb1⟩, rfl⟩
    rename_i w1
    have hz1 := hb1.size
    have HX1 := hidden (HX.out.below hb1)
    have HB1 := hidden (below_then HB0.out HB0.out.size hb1)
    have e1 := HX1.out.width
    have e2 := HX1.out.next
    have e3 := HX1.out.label
    clear hb1 c1 HL HR HV q2 q2'
    by_cases k3 : n = 0
    · have HF := hidden (show rightD D = false by unfold rightD; rw [HH.out]; simp [k3])
      have q3 : ((n : Int) == 0) = true := by simp [k3]
      have q4 : decide ((n : Int) = 0) = true := by simp [k3]
      have k3H := hidden k3
      clear HH k3
      go_wp2
      go_ret
      exact ⟨ret_b HF.out.symm, HB1.out⟩
    have q3 : ((n : Int) == 0) = false := by simp [k3]
    have q3' : decide ((n : Int) = 0) = false := by simp [k3]
    by_cases k4 : m = n
    case neg =>
      have HF := hidden (show rightD D = false by unfold rightD; rw [HH.out]; simp [k4])
      have q4 : ((m : Int) == (n : Int)) = false := by simp; omega
      have q4' : decide ((m : Int) = (n : Int)) = false := by simp; omega
      have k3H := hidden k3
      have k4H := hidden k4
      clear HH k3 k4
      go_wp2
      go_ret
      exact ⟨ret_b HF.out.symm, HB1.out⟩
    have HOK := hidden (show headOk D = true by rw [HH.out]; simp [k3, k4])
    subst k4
    have k3H := hidden k3
    clear HH k3
    go_wp2
    clear q3 q3'
    go_loopw [30] (fun i wr => ∃ k : Nat, k ≤ m ∧ i = .int .i64 k ∧ Hid (∀ j, j < k → rowOk D j = true) ∧ Below w1.heap.size w1 wr) (fun i _ => m - (Go.RowKit.intOf i).toNat)
    case atStart => exact ⟨0, by omega, rfl, hidden fun j hj => by omega, Below.refl _ _⟩
    case round =>
      obtain ⟨k, hk, rfl, hA, hb⟩ := hrel
      have HB := hidden hb
      clear hb e1 e2 e3
      by_cases hlt : k < m
      · have hX := HX1.out.below HB.out
        have HBW := hidden (below_then HB1.out HB1.out.size HB.out)
        obtain ⟨b, off, rfl, hbb, hcl⟩ := HD.out.label.atZ HBW.out k (by have := HM.out; omega)
        obtain ⟨b2, off2, a2, c2, rfl, hbb2, hcl2, hrr⟩ := HD.out.next.at HBW.out k (by have := HN.out; omega)
        have d1 := fun (p : Later wr) => Later.cell hX.width hX.lt p
        have d2 := fun (p : Later wr) => Later.cell hX.next hX.lt p
        have d3 := fun (p : Later wr) => Later.cell hX.label hX.lt p
        have d4 := fun (p : Later wr) => Later.cell hcl (cell_lt hcl) p
        have d5 := fun (p : Later wr) => Later.cell hcl2 (cell_lt hcl2) p
        have HIR := hidden (fun (W : World) (hb : Below wr.heap.size wr W) => isRow_calls (w := W) D.width m (hrr.below (hb.mono (Nat.le_trans HBW.out.size (Nat.le_refl _))) (Nat.le_trans HBW.out.size hb.size)))
        have HRK := hidden (HROW.out k)
        obtain ⟨lx, hlx⟩ : ∃ x, x = D.label.getD k 0 := ⟨_, rfl⟩
        obtain ⟨rl, hrl⟩ : ∃ x, x = D.next.getD k [] := ⟨_, rfl⟩
        rw [← hlx] at d4 HRK
        rw [← hrl] at d5 HIR HRK
        obtain ⟨rn, hrn⟩ : ∃ x, x = rl.length := ⟨_, rfl⟩
        rw [← hrn] at d5 HIR
        obtain ⟨rp, hrp⟩ : ∃ x, x = rowP rl D.width m := ⟨_, rfl⟩
        rw [← hrp] at HIR HRK
        have hki : (k : Int) < (m : Int) := by omega
        clear hX hcl hcl2 hrr hlx hrl hrn hrp
        by_cases h1 : lx < -1
        · have HF := hidden (HRF.out k hlt (by rw [HRK.out, decide_eq_false (by omega)]; rfl))
          go_wp2
          refine wp_region_later (by kernel_rfl) (by kernel_rfl) ?_
          repeat (go_big_quiet_step (fail))
          refine wpQuiet_nil ?_
          rintro _ ⟨⟨_, hb5⟩, rfl⟩
          rename_i w5
          go_wp2
          go_ret
          exact ⟨ret_b HF.out.symm, below_then HBW.out HBW.out.size hb5⟩
        · have hq1 : decide (lx < -1) = false := decide_eq_false h1
          have HIL := hidden (show ∀ (p : Later wr), Calls Tryz.prog 37 #[.slice a2 rn c2, .int .i64 D.width, .int .i64 m] p.at' fun e w' => e = .returned (.bool rp) ∧ Below p.at'.heap.size p.at' w' from fun p => HIR.out _ p.ok)
          cases rp with
          | false =>
            have HF := hidden (HRF.out k hlt (by rw [HRK.out, Bool.and_false]))
            go_wp2
            refine wp_region_later (by kernel_rfl) (by kernel_rfl) ?_
            repeat (go_big_quiet_step ((go_at_call 37; exact Later.calls (HIL.out _))))
            refine wpQuiet_nil ?_
            rintro _ ⟨⟨_, hb5⟩, rfl⟩
            rename_i w5
            go_wp2
            go_ret
            exact ⟨ret_b HF.out.symm, below_then HBW.out HBW.out.size hb5⟩
          | true =>
            have HT := hidden (show rowOk D k = true by rw [HRK.out, decide_eq_true (by omega)]; rfl)
            go_wp2
            refine wp_region_later (by kernel_rfl) (by kernel_rfl) ?_
            repeat (go_big_quiet_step ((go_at_call 37; exact Later.calls (HIL.out _))))
            refine wpQuiet_nil ?_
            rintro _ ⟨⟨_, hb5⟩, rfl⟩
            rename_i w5
            have HB5 := hidden (below_then HB.out HB.out.size hb5)
            clear hb5
            go_wp2
            go_roundw
            case rel =>
              refine ⟨k + 1, by omega, by go_num, hidden fun j hj => ?_, HB5.out⟩
              by_cases e : j = k
              · subst e; exact HT.out
              · exact hA.out j (by omega)
            case measure => simp [Go.RowKit.intOf]; omega
      · obtain rfl : k = m := by omega
        have HF := hidden (HRA.out HOK.out hA.out)
        go_wp2
        go_ret
        exact ⟨ret_b HF.out.symm, below_then HB1.out HB1.out.size HB.out⟩
end Go.Proofs.YtmpjjnjggihojaaGreatDoor

/- Contracts of the program's isState, follow, Go, Label and Run of a machine. -/
namespace Go.Proofs.YtmpjjnjggihojaaGreatDoor
open Go.RowKit

theorem wpl_any {o : Oper} {a : Act} {w : World} {K : Act → World → Prop} {Q : Exit → Act → World → Prop} {t : TypeId} {x : Operand} {p : Addr} {v : Value} (ho : o.op = .load t x) (hx : a.eval x = .pointer (some p))
    (hl : (loadVar t p).run Tryz.prog w = .ok v w) (h : K (a.put o.dst v) w) : o.wp Tryz.prog a w K Q := by
  unfold Oper.wp execOp
  simp only [ho, hx, Instr.loadAt, Instr.sureAddr, Sem.run_bind, Sem.run_pure, Result.andThen_ok, hl]
  exact h
theorem stepl_any {o : Oper} {a : Act} {w : World} {K : Act → World → Prop} {E : Prop} {ops : Array Oper} {Q : Exit → Act → World → Prop} (hgd : o.guard = none) {t : TypeId} {x : Operand} {p : Addr} {v : Value} (ho : o.op = .load t x) (hx : a.eval x = .pointer (some p))
    (hl : (loadVar t p).run Tryz.prog w = .ok v w) (h : K (a.put o.dst v) w) : if Region.wanted o (yielded ops a.tmps) = true then Oper.wp Tryz.prog o a w K Q else E := by
  have hw : Region.wanted o (yielded ops a.tmps) = true := by simp [Region.wanted, hgd]
  rw [if_pos hw]
  exact wpl_any ho hx hl h

set_option maxHeartbeats 2000000 in
set_option maxRecDepth 100000 in
theorem isState_calls {w : World} {vl : Value} {g : Nat → Nat} {wd : Int} {an : Option Addr} {n cn : Nat} (s : Int) :
    Calls Tryz.prog 41 #[dfaA g wd (.slice an n cn) vl, .int .i64 s] w fun e w' => e = .returned (.bool (decide (0 ≤ s) && decide (s < n))) ∧ Below w.heap.size w w' := by
  have HX := hidden (DfaAt.new w g wd (.slice an n cn) vl)
  have HB0 := hidden ((Below.refl w.heap.size w).alloc (Nat.le_refl _) (.cells (dfaC g wd (.slice an n cn) vl) 32))
  have hbx := run_box_dfa g wd (.slice an n cn) vl
  have e2 := HX.out.next
  go_enter Tryz.func41, Tryz.ntmps41
  by_cases h0 : 0 ≤ s
  · by_cases h1 : s < n
    · have q1 : decide (0 ≤ s) = true := decide_eq_true h0
      have q2 : decide (s < (n : Int)) = true := decide_eq_true h1
      go_wp2
      go_ret
      exact ⟨by first | rfl | (rw [q1, q2]; rfl), HB0.out⟩
    · have q1 : decide (0 ≤ s) = true := decide_eq_true h0
      have q2 : decide (s < (n : Int)) = false := decide_eq_false h1
      go_wp2
      go_ret
      exact ⟨by first | rfl | (rw [q1, q2]; rfl), HB0.out⟩
  · have q1 : decide (0 ≤ s) = false := decide_eq_false h0
    go_wp2
    go_ret
    exact ⟨by first | rfl | (rw [q1]; rfl), HB0.out⟩
set_option maxHeartbeats 2000000 in
set_option maxRecDepth 100000 in
theorem follow_calls {w : World} {vn vl : Value} {D : DfaM} (s : Int) (c : Nat) (h : RdDfa w.heap.size w vn vl D) (hR : rightD D = true) (hc : c < 256) :
    Calls Tryz.prog 40 #[dfaA D.cls D.width vn vl, .int .i64 s, .int .u8 c] w fun e w' => e = .returned (.int .i64 (goD D s c)) ∧ Below w.heap.size w w' := by
  obtain ⟨an, cn, rfl⟩ := h.next.form
  have hbn : D.next.length ≤ 9223372036854775807 := by
    obtain ⟨_, _, e, h1, h2, _⟩ := h.next
    unfold maxLen at h2
    omega
  obtain ⟨n, hn⟩ : ∃ n, n = D.next.length := ⟨_, rfl⟩
  rw [← hn] at hbn h ⊢
  have HN := hidden hn
  have HD := hidden h
  have HRT := hidden hR
  have HX := hidden (DfaAt.new w D.cls D.width (.slice an n cn) vl)
  have HB0 := hidden ((Below.refl w.heap.size w).alloc (Nat.le_refl _) (.cells (dfaC D.cls D.width (.slice an n cn) vl) 32))
  have hbx := run_box_dfa D.cls D.width (.slice an n cn) vl
  have HIS := hidden (fun (W : World) => isState_calls (w := W) (vl := vl) (g := D.cls) (wd := D.width) (an := an) (n := n) (cn := cn) s)
  have HC := hidden hc
  clear h hn hc hR
  go_enter Tryz.func40, Tryz.ntmps40
  go_wp2_with (refine load_dfa rfl (x := .tmp 3) rfl rfl HX.out ?_)
  refine (HIS.out _).mono ?_
  rintro e w1 ⟨rfl, hb1⟩
  have HX1 := hidden (HX.out.below hb1)
  have HB1 := hidden (below_then HB0.out HB0.out.size hb1)
  have e2 := (HX.out.below hb1).next
  clear hb1 HIS
  by_cases h0 : s < 0
  · have HF := hidden (show goD D s c = -1 by unfold goD; rw [if_neg (by omega)])
    have q1 : decide (0 ≤ s) = false := decide_eq_false (by omega)
    rw [q1, Bool.false_and]
    go_wp2
    go_ret
    exact ⟨ret_i HF.out.symm, HB1.out⟩
  · by_cases h1 : s < n
    · obtain ⟨j, rfl⟩ : ∃ j : Nat, s = j := ⟨s.toNat, by omega⟩
      have hj : j < n := by omega
      rw [decide_eq_true (show (0 : Int) ≤ (j : Int) by omega), decide_eq_true h1, Bool.true_and]
      obtain ⟨b, off, a', c', rfl, hbb, hcl, hrr⟩ := (HN.out ▸ HD.out.next).at HB1.out j (by rw [← HN.out]; exact hj)
      have hin := nxtD_in HRT.out (s := (j : Int)) (by omega) (by rw [← HN.out]; omega) HC.out
      have HF := hidden (show goD D (j : Int) c = (D.next.getD j []).getD (D.cls c) 0 by unfold goD nxtD; rw [if_pos ⟨HRT.out, by omega, by rw [← HN.out]; omega⟩]; rfl)
      have hin1 : D.cls c < (D.next.getD j []).length := hin.1
      obtain ⟨b3, off3, rfl, hb3, hc3⟩ := hrr.atZ (Below.refl _ _) (D.cls c) hin1
      have hcls := HX1.out.cls HC.out
      have c2 := fun (p : Later w1) => Later.cell e2 HX1.out.lt p
      have c4 := fun (p : Later w1) => Later.cell hcls HX1.out.lt p
      have d0 := fun (p : Later w1) => Later.cell hcl (cell_lt hcl) p
      have d1 := fun (p : Later w1) => Later.cell hc3 (cell_lt hc3) p
      have hc256 : (c : Int) < 256 := by have := HC.out; omega
      have hcl2 : D.cls c < 256 := HD.out.small c HC.out
      have hin2 : (D.cls c : Int) < ((D.next.getD j []).length : Int) := by omega
      generalize (D.next.getD j []).length = rl at *
      generalize (D.next.getD j []).getD (D.cls c) 0 = x at *
      generalize D.cls c = g at *
      clear hin hcls hcl hc3 hrr
      go_wp2
      refine wp_region_later (by kernel_rfl) (by kernel_rfl) ?_
      repeat (go_big_quiet_step (fail))
      refine wpQuiet_nil ?_
      rintro _ ⟨⟨_, hb5⟩, rfl⟩
      rename_i w5
      go_wp2
      go_ret
      exact ⟨ret_i HF.out.symm, below_then HB1.out HB1.out.size hb5⟩
    · have HF := hidden (show goD D s c = -1 by unfold goD; rw [if_neg (by rw [← HN.out]; omega)])
      have q2 : decide (s < (n : Int)) = false := decide_eq_false h1
      rw [q2, Bool.and_false]
      go_wp2
      go_ret
      exact ⟨ret_i HF.out.symm, HB1.out⟩
set_option maxHeartbeats 2000000 in
set_option maxRecDepth 100000 in
theorem go_calls {w : World} {vn vl : Value} {D : DfaM} (s : Int) (c : Nat) (h : RdDfa w.heap.size w vn vl D) (hc : c < 256) :
    Calls Tryz.prog 15 #[dfaA D.cls D.width vn vl, .int .i64 s, .int .u8 c] w fun e w' => e = .returned (.int .i64 (goD D s c)) ∧ Below w.heap.size w w' := by
  have HR := hidden (fun w' (hb : Below w.heap.size w w') => right14_calls (h.below hb hb.size))
  have HFO := hidden (fun (hR : rightD D = true) w' (hb : Below w.heap.size w w') => follow_calls s c (h.below hb hb.size) hR hc)
  have HX := hidden (DfaAt.new w D.cls D.width vn vl)
  have HB0 := hidden ((Below.refl w.heap.size w).alloc (Nat.le_refl _) (.cells (dfaC D.cls D.width vn vl) 32))
  have hbx := run_box_dfa D.cls D.width vn vl
  clear h hc
  go_enter Tryz.func15, Tryz.ntmps15
  go_wp2_with (refine load_dfa rfl (x := .tmp 3) rfl rfl HX.out ?_)
  refine (HR.out _ HB0.out).mono ?_
  rintro e w1 ⟨rfl, hb1⟩
  have HX1 := hidden (HX.out.below hb1)
  have HB1 := hidden (below_then HB0.out HB0.out.size hb1)
  clear hb1
  cases hr : rightD D with
  | false =>
    have HF := hidden (show goD D s c = -1 by unfold goD; rw [if_neg (by simp [hr])])
    clear hr
    go_wp2
    go_ret
    exact ⟨ret_i HF.out.symm, HB1.out⟩
  | true =>
    have HFF := hidden (HFO.out hr)
    clear hr HFO
    go_wp2_with (refine load_dfa rfl (x := .tmp 3) rfl rfl HX1.out ?_)
    refine (HFF.out _ HB1.out).mono ?_
    rintro e w2 ⟨rfl, hb2⟩
    go_wp2
    go_ret
    exact ⟨rfl, below_then HB1.out HB1.out.size hb2⟩
set_option maxHeartbeats 2000000 in
set_option maxRecDepth 100000 in
theorem label_calls {w : World} {vn vl : Value} {D : DfaM} (s : Int) (h : RdDfa w.heap.size w vn vl D) :
    Calls Tryz.prog 19 #[dfaA D.cls D.width vn vl, .int .i64 s] w fun e w' => e = .returned (.int .i64 (labelD D s)) ∧ Below w.heap.size w w' := by
  obtain ⟨an, cn, rfl⟩ := h.next.form
  obtain ⟨al, cl, rfl⟩ := h.label.form
  have hbn : D.next.length ≤ 9223372036854775807 := by
    obtain ⟨_, _, e, h1, h2, _⟩ := h.next
    unfold maxLen at h2
    omega
  have HIS := hidden (fun (W : World) => isState_calls (w := W) (vl := .slice al D.label.length cl) (g := D.cls) (wd := D.width) (an := an) (n := D.next.length) (cn := cn) s)
  have HR := hidden (fun w' (hb : Below w.heap.size w w') => right14_calls (h.below hb hb.size))
  have HLAB := hidden h.label
  obtain ⟨n, hn⟩ : ∃ n, n = D.next.length := ⟨_, rfl⟩
  obtain ⟨m, hm⟩ : ∃ m, m = D.label.length := ⟨_, rfl⟩
  rw [← hn] at HIS HR ⊢
  rw [← hm] at HIS HR HLAB ⊢
  have HN := hidden hn
  have HM := hidden hm
  have HX := hidden (DfaAt.new w D.cls D.width (.slice an n cn) (.slice al m cl))
  have HB0 := hidden ((Below.refl w.heap.size w).alloc (Nat.le_refl _) (.cells (dfaC D.cls D.width (.slice an n cn) (.slice al m cl)) 32))
  have hbx := run_box_dfa D.cls D.width (.slice an n cn) (.slice al m cl)
  clear h hn hm hbn
  go_enter Tryz.func19, Tryz.ntmps19
  cases hr : rightD D with
  | false =>
    have HF := hidden (show labelD D s = -1 by unfold labelD; rw [if_neg (by simp [hr])])
    have HRR := hidden (fun w' (hb : Below w.heap.size w w') => (show Calls Tryz.prog 12 #[dfaA D.cls D.width (.slice an n cn) (.slice al m cl)] w' fun e w'' => e = .returned (.bool false) ∧ Below w'.heap.size w' w'' from by
      have := HR.out w' hb
      rwa [hr] at this))
    clear hr
    go_wp2_with (first
      | (refine load_dfa rfl (x := .tmp 2) rfl rfl HX.out ?_)
      | (refine (HRR.out _ HB0.out).mono ?_; rintro e w1 ⟨rfl, hb1⟩; have HB1 := hidden (below_then HB0.out HB0.out.size hb1); clear hb1; dsimp only))
    (try go_wp2)
    go_ret
    exact ⟨ret_i HF.out.symm, HB1.out⟩
  | true =>
    have HRT := hidden hr
    have HRR := hidden (fun w' (hb : Below w.heap.size w w') => (show Calls Tryz.prog 12 #[dfaA D.cls D.width (.slice an n cn) (.slice al m cl)] w' fun e w'' => e = .returned (.bool true) ∧ Below w'.heap.size w' w'' from by
      have := HR.out w' hb
      rwa [hr] at this))
    have HLN := hidden (rightD_spec hr).2.2.2.1
    clear hr
    by_cases h0 : 0 ≤ s ∧ s < n
    · obtain ⟨j, rfl⟩ : ∃ j : Nat, s = j := ⟨s.toNat, by omega⟩
      have hq : (decide ((0 : Int) ≤ (j : Int)) && decide ((j : Int) < (n : Int))) = true := by simp; omega
      rw [hq] at HIS
      have hjm : j < m := by have := HN.out; have := HM.out; have := HLN.out; omega
      have HF := hidden (show labelD D (j : Int) = D.label.getD j 0 by unfold labelD; rw [if_pos ⟨HRT.out, by omega, by have := HM.out; omega⟩]; rfl)
      have hji : (j : Int) < (m : Int) := by omega
      clear hq h0
      go_wp2_with (first
        | (refine load_dfa rfl (x := .tmp 2) rfl rfl HX.out ?_)
        | (refine (HRR.out _ HB0.out).mono ?_; rintro e w1 ⟨rfl, hb1⟩; have HX1 := hidden (HX.out.below hb1); have HB1 := hidden (below_then HB0.out HB0.out.size hb1); clear hb1; dsimp only))
      refine wpl_any (x := .tmp 2) rfl rfl (run_load_dfa HX1.out) ?_
      simp only [Act.put, List.setIfInBounds_toArray, List.set_cons_zero, List.set_cons_succ]
      go_wp2_with (first
        | (refine (HIS.out _).mono ?_; rintro e w2 ⟨rfl, hb2⟩; have HB2 := hidden (below_then HB1.out HB1.out.size hb2); have k2 := (HX1.out.below hb2).label; obtain ⟨b, off, hal, _, d0⟩ := HLAB.out.atZ HB2.out j (by have := HM.out; omega); subst hal; clear hb2; dsimp only))
      go_wp2
      go_ret
      exact ⟨ret_i HF.out.symm, HB2.out⟩
    · have hq : (decide (0 ≤ s) && decide (s < (n : Int))) = false := by
        rw [Bool.and_eq_false_iff, decide_eq_false_iff_not, decide_eq_false_iff_not]
        omega
      rw [hq] at HIS
      have HF := hidden (show labelD D s = -1 by unfold labelD; rw [if_neg (by have := HN.out; have := HM.out; have := HLN.out; omega)])
      clear hq h0
      go_wp2_with (first
        | (refine load_dfa rfl (x := .tmp 2) rfl rfl HX.out ?_)
        | (refine (HRR.out _ HB0.out).mono ?_; rintro e w1 ⟨rfl, hb1⟩; have HX1 := hidden (HX.out.below hb1); have HB1 := hidden (below_then HB0.out HB0.out.size hb1); clear hb1; dsimp only))
      refine wpl_any (x := .tmp 2) rfl rfl (run_load_dfa HX1.out) ?_
      simp only [Act.put, List.setIfInBounds_toArray, List.set_cons_zero, List.set_cons_succ]
      go_wp2_with (first
        | (refine (HIS.out _).mono ?_; rintro e w2 ⟨rfl, hb2⟩; have HB2 := hidden (below_then HB1.out HB1.out.size hb2); clear hb2; dsimp only))
      go_wp2
      go_ret
      exact ⟨ret_i HF.out.symm, HB2.out⟩
set_option maxHeartbeats 4000000 in
set_option maxRecDepth 100000 in
theorem run14_calls {w : World} {vn vl : Value} {D : DfaM} (s : ByteArray) (h : RdDfa w.heap.size w vn vl D) (hs : s.size ≤ maxLen) :
    Calls Tryz.prog 17 #[dfaA D.cls D.width vn vl, .string s] w fun e w' => e = .returned (.int .i64 (runD D (s.data.toList.map (·.toNat)))) ∧ Below w.heap.size w w' := by
  unfold maxLen at hs
  have HR := hidden (fun w' (hb : Below w.heap.size w w') => right14_calls (h.below hb hb.size))
  have HFO := hidden (fun (hR : rightD D = true) w' (hb : Below w.heap.size w w') (t : Int) (c : Nat) (hc : c < 256) => follow_calls t c (h.below hb hb.size) hR hc)
  have HX := hidden (DfaAt.new w D.cls D.width vn vl)
  have HB0 := hidden ((Below.refl w.heap.size w).alloc (Nat.le_refl _) (.cells (dfaC D.cls D.width vn vl) 32))
  have hbx := run_box_dfa D.cls D.width vn vl
  clear h
  go_enter Tryz.func17, Tryz.ntmps17
  go_wp2_with (refine load_dfa rfl (x := .tmp 2) rfl rfl HX.out ?_)
  refine (HR.out _ HB0.out).mono ?_
  rintro e w1 ⟨rfl, hb1⟩
  have HX1 := hidden (HX.out.below hb1)
  have HB1 := hidden (below_then HB0.out HB0.out.size hb1)
  clear hb1
  cases hr : rightD D with
  | false =>
    have HF := hidden (show runD D (s.data.toList.map (·.toNat)) = -1 by unfold runD; rw [if_neg (by simp [hr])])
    clear hr
    go_wp2
    go_ret
    exact ⟨ret_i HF.out.symm, HB1.out⟩
  | true =>
    have HRT := hidden hr
    have HF := hidden (show runD D (s.data.toList.map (·.toNat)) = runS D 0 ((s.data.toList.drop 0).map (·.toNat)) by unfold runD; rw [if_pos hr]; rfl)
    have HN0 := hidden (show (0 : Int) < D.next.length by have := (rightD_spec hr).2.2.1; omega)
    have HFF := hidden (HFO.out hr)
    clear hr HFO
    go_wp2
    go_loopw [5, 6] (fun x i wr => ∃ (k : Nat) (t : Int), k ≤ s.size ∧ x = .int .i64 t ∧ i = .int .i64 k ∧ -1 ≤ t ∧ Hid (t < D.next.length) ∧ runD D (s.data.toList.map (·.toNat)) = runS D t ((s.data.toList.drop k).map (·.toNat)) ∧ Below w1.heap.size w1 wr) (fun _ i _ => s.size - (intOf i).toNat)
    case atStart => exact ⟨0, 0, by omega, rfl, rfl, by omega, hidden HN0.out, HF.out, Below.refl _ _⟩
    case round =>
      obtain ⟨k, t, hk, rfl, rfl, ht0, ht1, hf, hb⟩ := hrel
      have HT1 := hidden ht1.out
      have HFF2 := hidden hf
      have HB := hidden hb
      clear hf hb HF ht1
      by_cases hlt : k < s.size
      · by_cases h0 : t = -1
        · subst h0
          have HE := hidden (HFF2.out.trans (runS_stop D (by omega) _))
          clear HFF2
          go_wp2
          go_ret
          exact ⟨ret_i HE.out.symm, below_then HB1.out HB1.out.size HB.out⟩
        · obtain ⟨j, rfl⟩ : ∃ j : Nat, t = j := ⟨t.toNat, by omega⟩
          obtain ⟨c, hc⟩ : ∃ c, c = s[k].toNat := ⟨_, rfl⟩
          have hc256 : c < 256 := by rw [hc]; exact UInt8.toNat_lt _
          have hcx : ((s[k]'hlt).toNat : Int) = (c : Int) := by rw [hc]
          have hin := nxtD_in HRT.out (s := (j : Int)) (by omega) HT1.out hc256
          have hff := HFF2.out
          rw [bytes_drop s hlt, runS, if_neg (by omega), ← hc] at hff
          have hgo : goD D (j : Int) c = nxtD D (j : Int) c := by unfold goD; rw [if_pos ⟨HRT.out, by omega, HT1.out⟩]
          have HG := hidden hff
          have HFC := hidden (fun (W' : World) (hb : Below wr.heap.size wr W') => (show Calls Tryz.prog 40 #[dfaA D.cls D.width vn vl, .int .i64 (j : Int), .int .u8 (c : Int)] W' fun e w' => e = .returned (.int .i64 (nxtD D (j : Int) c)) ∧ Below W'.heap.size W' w' from by
            have h5 := HFF.out W' (below_then HB1.out HB1.out.size (below_then HB.out HB.out.size hb)) (j : Int) c hc256
            rwa [hgo] at h5))
          have hX := HX1.out.below HB.out
          have HXX := hidden hX
          have hq : decide ((j : Int) = -1) = false := decide_eq_false (by omega)
          have hq2 : ((j : Int) == -1) = false := by simp <;> omega
          have hq3 : ((j : Int) != -1) = true := by simp <;> omega
          have HI1 := hidden hin.2.1
          have HI2 := hidden hin.2.2
          generalize nxtD D (j : Int) c = x at *
          clear hff hin hc hX h0 HFF2 hgo
          have HL := hidden (show ∀ w', (∃ p : Later wr, w' = p.at') → (loadVar 32 ⟨w.heap.size, 0, none⟩).run Tryz.prog w' = .ok (dfaA D.cls D.width vn vl) w' from fun w' ⟨p, e⟩ => by subst e; exact run_load_dfa (HXX.out.below p.ok))
          have HFL := hidden (fun (p : Later wr) => HFC.out p.at' p.ok)
          go_wp2
          refine wp_region_later (by kernel_rfl) (by kernel_rfl) ?_
          repeat (first
            | (go_big_quiet_want; (refine quiet_load (x := .tmp 2) rfl rfl HL.out ?_); simp only [Act.put, List.setIfInBounds_toArray, List.set_cons_zero, List.set_cons_succ]; go_big_quiet_on)
            | go_big_quiet_step ((go_at_call 40; exact Later.calls (HFL.out _))))
          refine wpQuiet_nil ?_
          rintro _ ⟨⟨_, hb5⟩, rfl⟩
          rename_i w5
          have HB5 := hidden hb5
          clear hb5
          go_wp2
          go_roundw
          case rel => exact ⟨k + 1, x, by omega, by go_num, by go_num, HI1.out, hidden HI2.out, HG.out, below_then HB.out HB.out.size HB5.out⟩
          case measure => simp [intOf]; omega
      · obtain rfl : k = s.size := by omega
        have HE := hidden (show runD D (s.data.toList.map (·.toNat)) = t from by rw [HFF2.out, List.drop_eq_nil_of_le (by simp)]; rfl)
        clear HFF2
        go_wp2
        go_ret
        exact ⟨ret_i HE.out.symm, below_then HB1.out HB1.out.size HB.out⟩
end Go.Proofs.YtmpjjnjggihojaaGreatDoor
