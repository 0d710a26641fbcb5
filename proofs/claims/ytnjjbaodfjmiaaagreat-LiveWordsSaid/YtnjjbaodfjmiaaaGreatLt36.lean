/- MaRef2, MaOf, LvTrS, LvRTok, put together. -/
import Derived.Test.YtnjjbaodfjmiaaaGreatLt35
import Derived.Test.YtnjjbaodfjmiaaaGreatShelf
import Derived.Test.YtnjjbaodfjmiaaaGreatLt19
import Derived.Sort.OwnSortedInts
import Derived.RangeFuncBox
import Derived.StillTailTactics
import Derived.Test.YtnjjbaodfjmiaaaGreatLt33
import Derived.Test.YtnjjbaodfjmiaaaGreatLt15
import Derived.Test.YtnjjbaodfjmiaaaGreatLt34
/- Contracts of the reference's Of, Union and Kept. -/
namespace Go.Proofs.YtnjjbaodfjmiaaaGreat
open Go.RowKit Go.Lib Go.Joins

theorem MkZ.put {w wr : World} {l : List Int} {v : Value} {n : Int} (h : MkZ w l v wr) (hl : l.length ≤ 90000) :
    Calls Tryz.prog 60 #[v, .int .i64 n] wr fun e w' => ∃ u, e = .returned u ∧ MkZ w (putV l n) u w' := by
  refine (rput11_calls wr v l n h.1.reads hl).mono ?_
  rintro e w' ⟨u, rfl, hu, hb⟩
  refine ⟨u, rfl, ?_, below_then h.2 h.2.size hb⟩
  rcases hu with ⟨rfl, hm⟩ | ⟨hm, hr⟩
  · rw [show putV l n = l from if_pos hm]
    exact h.1.kept hb
  · exact hr.lower h.2.size
set_option maxHeartbeats 4000000 in
set_option maxRecDepth 100000 in
theorem rof11_calls (w : World) (v : Value) (l : List Int) (h : RdZ w.heap.size w v l) (hl : l.length ≤ 1000) : Calls Tryz.prog 39 #[v] w (RetZ w (ofV l)) := by
  obtain ⟨a, cap, rfl, h1, h2, _, h4⟩ := h
  have H4 := hidden h4
  have HPT := hidden (fun k hk => puts_take [] l k hk)
  have HPL := hidden (fun k => puts_len (l.take k) [])
  have HE := hidden (show putsV [] (l.take l.length) = ofV l by rw [List.take_of_length_le (Nat.le_refl _)]; rfl)
  obtain ⟨m, hmm⟩ : ∃ m, m = l.length := ⟨_, rfl⟩
  rw [← hmm] at H4 HPT HE h1 hl ⊢
  unfold maxLen at h2
  clear h4 hmm
  go_enter Tryz.func39, Tryz.ntmps39
  go_wp2
  go_loopw [3, 4] (fun ov i wr => ∃ (k : Nat) (o : Value), k ≤ m ∧ i = .int .i64 k ∧ o = ov ∧ MkZ w (putsV [] (l.take k)) o wr) (fun _ i _ => m - (Go.RowKit.intOf i).toNat)
  case atStart => exact ⟨0, _, by omega, rfl, rfl, ⟨RowZ.lit w _ rfl _ rfl, (Below.refl _ _).alloc (Nat.le_refl _) _⟩⟩
  case round =>
    obtain ⟨k, o, hk, rfl, rfl, hr⟩ := hrel
    have HR := hidden hr
    obtain ⟨av, cv, rfl⟩ := hr.1.form
    have hlen := HPL.out k
    clear hr
    by_cases hlt : k < m
    · obtain ⟨b, off, rfl, hbB, hc⟩ := H4.out (by omega)
      have c1 := (HR.out.2.cell (p := ⟨b, off + k, none⟩) hbB).trans (hc k hlt)
      have HT := hidden (HPT.out k hlt)
      have hl2 : (putsV [] (l.take k)).length ≤ 90000 := by
        rw [List.length_take] at hlen
        simp only [List.length_nil] at hlen
        omega
      have HP := hidden (fun n => MkZ.put (n := n) HR.out hl2)
      obtain ⟨q, hq⟩ : ∃ q, q = (putsV [] (l.take k)).length := ⟨_, rfl⟩
      rw [← hq] at HP ⊢
      generalize l.getD k 0 = x at *
      clear hc hlen hl2 hq
      go_wp2_with fail
      refine (HP.out x).mono ?_
      rintro e w2 ⟨u, rfl, hu⟩
      have HU := hidden (show MkZ w (putsV [] (l.take (k + 1))) u w2 from by rw [HT.out]; exact hu)
      clear hu
      go_wp2
      go_roundw
      case rel => exact ⟨k + 1, _, by omega, by go_num, rfl, HU.out⟩
      case measure => simp [Go.RowKit.intOf]; omega
    · obtain rfl : k = m := by omega
      have HF := hidden (show RowZ wr w.heap.size (.slice av (putsV [] (l.take k)).length cv) (ofV l) ∧ Below w.heap.size w wr from by rw [← HE.out]; exact HR.out)
      generalize (putsV [] (l.take k)).length = q at *
      clear hlen
      go_wp2
      go_ret
      exact ⟨_, rfl, HF.out.1, HF.out.2⟩
end Go.Proofs.YtnjjbaodfjmiaaaGreat

/- Contracts of Of (Clone, Sort, Compact), Has, Same and Within. -/
namespace Go.Proofs.YtnjjbaodfjmiaaaGreat
open Go.RowKit Go.Lib Go.Joins Go.Sort

theorem compact_upto (d : Array Int) (hd : ∀ i j, i < j → j < d.size → d[i]! ≤ d[j]!) : ∀ m, m ≤ d.size → Up (compactUpTo d m) ∧ (∀ x ∈ compactUpTo d m, ∃ i, i < m ∧ x = d[i]!) ∧ ∀ i, i < m → d[i]! ∈ compactUpTo d m
  | 0, _ => ⟨by simp [compactUpTo, Up], by simp [compactUpTo], fun i hi => by omega⟩
  | m + 1, h => by
    obtain ⟨i1, i2, i3⟩ := compact_upto d hd m (by omega)
    rw [compactUpTo_succ]
    by_cases hk : keeps d m = true
    · rw [if_pos hk]
      refine ⟨List.pairwise_append.2 ⟨i1, by simp, fun x hx y hy => ?_⟩, fun x hx => ?_, fun i hi => ?_⟩
      · simp only [List.mem_singleton] at hy
        subst hy
        obtain ⟨i, hi, rfl⟩ := i2 x hx
        have hne : d[m]! ≠ d[m - 1]! := by
          simp only [keeps, decide_eq_true_eq] at hk
          exact hk.resolve_left (by omega)
        have h1 : d[i]! ≤ d[m - 1]! := by
          by_cases e : i = m - 1
          · rw [e]; omega
          · exact hd i (m - 1) (by omega) (by omega)
        have h2 := hd (m - 1) m (by omega) (by omega)
        omega
      · rcases List.mem_append.1 hx with hx | hx
        · obtain ⟨i, hi, e⟩ := i2 x hx
          exact ⟨i, by omega, e⟩
        · simp only [List.mem_singleton] at hx
          exact ⟨m, by omega, hx⟩
      · rw [List.mem_append]
        by_cases e : i = m
        · right; simp [e]
        · exact .inl (i3 i (by omega))
    · rw [if_neg hk, List.append_nil]
      refine ⟨i1, fun x hx => ?_, fun i hi => ?_⟩
      · obtain ⟨i, hi, e⟩ := i2 x hx
        exact ⟨i, by omega, e⟩
      · by_cases e : i = m
        · subst e
          simp only [keeps, decide_eq_true_eq, not_or, Decidable.not_not] at hk
          have := i3 (i - 1) (by omega)
          rw [← hk.2] at this
          exact this
        · exact i3 i (by omega)
theorem compact_len (d : Array Int) (m : Nat) : (compactUpTo d m).length ≤ m := by
  unfold compactUpTo
  rw [List.length_map]
  have := List.length_filter_le (keeps d) (List.range m)
  simpa using this
/-- sorted and compacted: all numbers, rising -/
theorem sorted_eq (zs : List Int) : Lib.compact (zs.mergeSort fun x y => decide (x ≤ y)) = ofV zs := by
  have hs : (zs.mergeSort fun x y => decide (x ≤ y)).Pairwise fun x y => x ≤ y := by
    have := List.pairwise_mergeSort (le := fun x y : Int => decide (x ≤ y)) (by intro a b c; simp; omega) (by intro a b; simp; omega) zs
    exact this.imp fun h => by simpa using h
  have hm : ∀ x, x ∈ (zs.mergeSort fun x y => decide (x ≤ y)) ↔ x ∈ zs := fun x => (List.mergeSort_perm zs _).mem_iff
  generalize (zs.mergeSort fun x y => decide (x ≤ y)) = l at *
  have hd : ∀ i j, i < j → j < l.toArray.size → l.toArray[i]! ≤ l.toArray[j]! := fun i j hij hj => by
    have hj' : j < l.length := by simpa using hj
    rw [getElem!_pos l.toArray i (by simp; omega), getElem!_pos l.toArray j hj]
    exact List.pairwise_iff_getElem.1 hs i j (by omega) hj' hij
  obtain ⟨h1, h2, h3⟩ := compact_upto l.toArray hd l.length (by simp)
  refine up_ext h1 (of_facts zs).1 fun x => ?_
  rw [(of_facts zs).2, ← hm]
  constructor
  · intro hx
    obtain ⟨i, hi, rfl⟩ := h2 x hx
    rw [getElem!_pos l.toArray i (by simpa using hi)]
    simp
  · intro hx
    obtain ⟨i, hi, rfl⟩ := List.getElem_of_mem hx
    have := h3 i hi
    rwa [getElem!_pos l.toArray i (by simpa using hi)] at this
theorem row_partsM {w : World} {base g n cap : Nat} {l : List Int} (h : RowZ w base (.slice (some ⟨g, 0, none⟩) n cap) l) : ∃ cur, n = l.length ∧ base ≤ g ∧ w.heap[g]? = some (.cells cur 3 (0, 0)) ∧ l.length ≤ cap ∧ cap ≤ maxLen ∧ cur.size = cap * 1 ∧ cur.toList.take l.length = l.map (Value.int .i64) := by
  rcases h.2 with ⟨e, _⟩ | ⟨g', cap', cur, e, hb, hg, h1, h2, h3, h4⟩
  · cases e
  · simp only [Value.slice.injEq, Option.some.injEq, Addr.mk.injEq, and_true] at e
    obtain ⟨rfl, rfl, rfl⟩ := e
    exact ⟨cur, rfl, hb, hg, h1, h2, h3, by simpa using h4⟩
theorem sort_row {w : World} {base g n cap : Nat} {l : List Int} (h : RowZ w base (.slice (some ⟨g, 0, none⟩) n cap) l) (hl : l.length ≤ 100000) :
    Calls Tryz.prog 37 #[.slice (some ⟨g, 0, none⟩) n cap] w fun e w' => e = .returned (.tuple #[]) ∧ RowZ w' base (.slice (some ⟨g, 0, none⟩) n cap) (l.mergeSort fun x y => decide (x ≤ y)) ∧ w.grownBy w' (some g) := by
  obtain ⟨cur, rfl, hb, hg, h1, h2, h3, h4⟩ := row_partsM h
  refine (Go.Proofs.Tryz.slices_Sort_int g 0 cap l w (holds_of_blockI hg h4) (Array.getElem?_eq_some_iff.1 hg).1 (by omega)).mono ?_
  rintro e w' ⟨rfl, q, os, rfl⟩
  have hlen : (l.mergeSort fun x y => decide (x ≤ y)).length = l.length := List.length_mergeSort l
  refine ⟨rfl, ?_, grownBy_sortedI _⟩
  have := ownsRow_sortedI (w := w) (n := q) (os := os) hlen hb hg h1 h2 h3
  unfold RowZ
  rw [hlen]
  exact this
theorem compact_row {w : World} {base g n cap : Nat} {l : List Int} (h : RowZ w base (.slice (some ⟨g, 0, none⟩) n cap) l) (hl : l.length ≤ 100000) :
    Calls Tryz.prog 38 #[.slice (some ⟨g, 0, none⟩) n cap] w fun e w' => (∃ v, e = .returned v ∧ RowZ w' base v (Lib.compact l)) ∧ w.grownBy w' (some g) := by
  obtain ⟨cur, rfl, hb, hg, h1, h2, h3, h4⟩ := row_partsM h
  refine (Go.Proofs.Tryz.slices_Compact_int g 0 cap l w (holds_of_blockI hg h4) (by omega) h1).mono ?_
  rintro e w' ⟨rfl, q, rfl⟩
  have hc : (Lib.compact l).length ≤ l.length := compact_len _ _
  have hlen : (Lib.compact l ++ List.replicate (l.length - (Lib.compact l).length) 0).length = l.length := by simp; omega
  have hgr := grownBy_sortedI (w := w) (g := g) (n := q) (os := #[]) (Lib.compact l ++ List.replicate (l.length - (Lib.compact l).length) 0).toArray
  have hrow := ownsRow_sortedI (w := w) (n := q) (os := #[]) hlen hb hg h1 h2 h3
  rw [Go.Sort.grow_empty] at hgr hrow
  refine ⟨⟨_, rfl, ?_⟩, hgr⟩
  obtain ⟨cur', _, _, hg', h1', h2', h3', h4'⟩ := row_partsM (l := Lib.compact l ++ List.replicate (l.length - (Lib.compact l).length) 0) (n := l.length) (cap := cap) (by unfold RowZ; rw [hlen]; exact hrow)
  refine ⟨by simp, .inr ⟨g, cap, cur', rfl, hb, hg', by omega, h2', h3', ?_⟩⟩
  have h5 := congrArg (List.take (Lib.compact l).length) h4'
  have hL : List.take (Lib.compact l).length ((Lib.compact l ++ List.replicate (l.length - (Lib.compact l).length) 0).map (Value.int .i64)) = (Lib.compact l).map (Value.int .i64) := by
    rw [List.map_append, List.take_append_of_le_length (by simp), List.take_of_length_le (by simp)]
  rw [hL, hlen, List.take_take, Nat.min_eq_left hc] at h5
  rw [Nat.mul_one]
  exact h5
theorem of_short {l : List Int} (h : l.length = 0) : ofV l = [] := by
  obtain rfl := List.eq_nil_of_length_eq_zero h
  rfl
end Go.Proofs.YtnjjbaodfjmiaaaGreat

/- A machine that is built, beside lists that lie far from it: what a step makes of them. -/
namespace Go.Proofs.YtnjjbaodfjmiaaaGreat
open Go.RowKit Go.Lib Go.Joins

section
variable {w0 w w' : World} {base RB DB : Nat} {g : Nat → Nat} {wd : Int} {vn vl fv rv : Value} {us ws : List Value} {N : List (List Int)} {L : List Int} {F : List (List Int)} {R : List Int}
theorem DfSt.stayN (_h : DfSt w0 base w RB DB g wd vn vl fv rv us ws N L F R) {vn' u : Value} (t : List Int) (hA : Appd w w' base 24 1 vn vn' (N.length + 1) (us ++ [u])) :
    StayR (XB RB DB) w (rows4 vn vl fv rv us ws N L F R) (w'.setCell ⟨DB, 257, none⟩ vn') (rows4 vn' vl fv rv (us ++ [u]) ws (N ++ [t]) L F R) := by
  have e : (rows4 vn vl fv rv us ws N L F R).set 0 ⟨24, 1, vn', N.length + 1, us ++ [u]⟩ = rows4 vn' vl fv rv (us ++ [u]) ws (N ++ [t]) L F R := by simp [rows4]
  have h2 := StayR.grow (X := XB RB DB) 0 (by simp [rows4]) ⟨24, 1, vn', N.length + 1, us ++ [u]⟩ (rs := rows4 vn vl fv rv us ws N L F R) hA.grown hA.at
  rw [e] at h2
  exact h2.trans (StayR.store (B := DB) (.inr rfl) 257 vn')
theorem DfSt.stayL (_h : DfSt w0 base w RB DB g wd vn vl fv rv us ws N L F R) {vl' : Value} {x : Int} (hA : Appd w w' base 3 1 vl vl' (L.length + 1) (L.map (Value.int .i64) ++ [Value.int IntKind.i64 x])) :
    StayR (XB RB DB) w (rows4 vn vl fv rv us ws N L F R) (w'.setCell ⟨DB, 258, none⟩ vl') (rows4 vn vl' fv rv us ws N (L ++ [x]) F R) := by
  have e : (rows4 vn vl fv rv us ws N L F R).set 1 ⟨3, 1, vl', L.length + 1, L.map (Value.int .i64) ++ [Value.int IntKind.i64 x]⟩ = rows4 vn vl' fv rv us ws N (L ++ [x]) F R := by simp [rows4]
  have h2 := StayR.grow (X := XB RB DB) 1 (by simp [rows4]) ⟨3, 1, vl', L.length + 1, L.map (Value.int .i64) ++ [Value.int IntKind.i64 x]⟩ (rs := rows4 vn vl fv rv us ws N L F R) hA.grown hA.at
  rw [e] at h2
  exact h2.trans (StayR.store (B := DB) (.inr rfl) 258 vl')
theorem DfSt.stayR (_h : DfSt w0 base w RB DB g wd vn vl fv rv us ws N L F R) {rv' : Value} {x : Int} (hA : Appd w w' base 3 1 rv rv' (R.length + 1) (R.map (Value.int .i64) ++ [Value.int IntKind.i64 x])) :
    StayR (XB RB DB) w (rows4 vn vl fv rv us ws N L F R) w' (rows4 vn vl fv rv' us ws N L F (R ++ [x])) := by
  have e : (rows4 vn vl fv rv us ws N L F R).set 3 ⟨3, 1, rv', R.length + 1, R.map (Value.int .i64) ++ [Value.int IntKind.i64 x]⟩ = rows4 vn vl fv rv' us ws N L F (R ++ [x]) := by simp [rows4]
  have h2 := StayR.grow (X := XB RB DB) 3 (by simp [rows4]) ⟨3, 1, rv', R.length + 1, R.map (Value.int .i64) ++ [Value.int IntKind.i64 x]⟩ (rs := rows4 vn vl fv rv us ws N L F R) hA.grown hA.at
  rwa [e] at h2
theorem DfSt.stayD (_h : DfSt w0 base w RB DB g wd vn vl fv rv us ws N L F R) : StayR (XB RB DB) w (rows4 vn vl fv rv us ws N L F R) w (rows4 vn vl fv (.slice none 0 0) us ws N L F []) := by
  have e : (rows4 vn vl fv rv us ws N L F R).set 3 ⟨3, 1, .slice none 0 0, 0, []⟩ = rows4 vn vl fv (.slice none 0 0) us ws N L F [] := by simp [rows4]
  have h2 := StayR.drop (w := w) (X := XB RB DB) (rs := rows4 vn vl fv rv us ws N L F R) 3 (by simp [rows4]) 3 1
  rwa [e] at h2
theorem DfSt.stayNew (h : DfSt w0 base w RB DB g wd vn vl fv rv us ws N L F R) : StayR (XB RB DB) w (rows4 vn vl fv rv us ws N L F R) (w.alloc (.cells #[] 3)) (rows4 vn vl fv (.slice (some ⟨w.heap.size, 0, none⟩) 0 0) us ws N L F []) := by
  have e : (rows4 vn vl fv rv us ws N L F R).set 3 ⟨3, 1, .slice (some ⟨w.heap.size, 0, none⟩) 0 0, 0, []⟩ = rows4 vn vl fv (.slice (some ⟨w.heap.size, 0, none⟩) 0 0) us ws N L F [] := by simp [rows4]
  have hd := h.stayD
  have h2 := StayR.grow (w := w) (w' := w.alloc (.cells #[] 3)) (X := XB RB DB) (rs := rows4 vn vl fv (.slice none 0 0) us ws N L F []) 3 (by simp [rows4]) ⟨3, 1, .slice (some ⟨w.heap.size, 0, none⟩) 0 0, 0, []⟩ (World.grownBy_alloc w _ _) (fun k hk => by
    simp only [Value.ownBlock, Option.some.injEq] at hk
    exact .inr (by omega))
  have e2 : (rows4 vn vl fv (.slice none 0 0) us ws N L F []).set 3 ⟨3, 1, .slice (some ⟨w.heap.size, 0, none⟩) 0 0, 0, []⟩ = rows4 vn vl fv (.slice (some ⟨w.heap.size, 0, none⟩) 0 0) us ws N L F [] := by simp [rows4]
  rw [e2] at h2
  exact hd.trans h2
end
/-- the machine that is built; the lists beside it -/
structure TrSt (w0 : World) (base : Nat) (w : World) (RB DB : Nat) (g : Nat → Nat) (wd : Int) (vn vl rv : Value) (us : List Value) (N : List (List Int)) (L : List Int) (R : List Int) (xs : List Value) (XL : List (List Int)) : Prop where
  s : DfSt w0 base w RB DB g wd vn vl (.slice none 0 0) rv us [] N L [] R
  x : Els (FarR w (XB RB DB) (rows4 vn vl (.slice none 0 0) rv us [] N L [] R)) w xs XL
section
variable {w0 w w' : World} {base RB DB : Nat} {g : Nat → Nat} {wd : Int} {vn vl rv : Value} {us : List Value} {N : List (List Int)} {L : List Int} {R : List Int} {xs : List Value} {XL : List (List Int)}
theorem TrSt.kept (h : TrSt w0 base w RB DB g wd vn vl rv us N L R xs XL) (hb : Below w.heap.size w w') : TrSt w0 base w' RB DB g wd vn vl rv us N L R xs XL := ⟨h.s.kept hb, h.x.mono (StayR.below hb)⟩
theorem TrSt.putN (h : TrSt w0 base w RB DB g wd vn vl rv us N L R xs XL) {vn' u : Value} {t : List Int} (hu : ElR (FarR w (XB RB DB) (rows4 vn vl (.slice none 0 0) rv us [] N L [] R)) w u t) (hA : Appd w w' base 24 1 vn vn' (N.length + 1) (us ++ [u])) :
    TrSt w0 base (w'.setCell ⟨DB, 257, none⟩ vn') RB DB g wd vn' vl rv (us ++ [u]) (N ++ [t]) L R xs XL := ⟨h.s.putN hu hA, h.x.mono (h.s.stayN t hA)⟩
theorem TrSt.putL (h : TrSt w0 base w RB DB g wd vn vl rv us N L R xs XL) {vl' : Value} {x : Int} (hA : Appd w w' base 3 1 vl vl' (L.length + 1) (L.map (Value.int .i64) ++ [Value.int IntKind.i64 x])) :
    TrSt w0 base (w'.setCell ⟨DB, 258, none⟩ vl') RB DB g wd vn vl' rv us N (L ++ [x]) R xs XL := ⟨h.s.putL hA, h.x.mono (h.s.stayL hA)⟩
theorem TrSt.putR (h : TrSt w0 base w RB DB g wd vn vl rv us N L R xs XL) {rv' : Value} {x : Int} (hA : Appd w w' base 3 1 rv rv' (R.length + 1) (R.map (Value.int .i64) ++ [Value.int IntKind.i64 x])) :
    TrSt w0 base w' RB DB g wd vn vl rv' us N L (R ++ [x]) xs XL := ⟨h.s.putR hA, h.x.mono (h.s.stayR hA)⟩
theorem TrSt.dropR (h : TrSt w0 base w RB DB g wd vn vl rv us N L R xs XL) : TrSt w0 base w RB DB g wd vn vl (.slice none 0 0) us N L [] xs XL ∧ ElR (FarR w (XB RB DB) (rows4 vn vl (.slice none 0 0) (.slice none 0 0) us [] N L [] [])) w rv R :=
  ⟨⟨h.s.dropR.1, h.x.mono h.s.stayD⟩, h.s.dropR.2⟩
theorem TrSt.newR (h : TrSt w0 base w RB DB g wd vn vl rv us N L R xs XL) : TrSt w0 base (w.alloc (.cells #[] 3)) RB DB g wd vn vl (.slice (some ⟨w.heap.size, 0, none⟩) 0 0) us N L [] xs XL := ⟨h.s.newR, h.x.mono h.s.stayNew⟩
theorem TrSt.fresh (h : TrSt w0 base w RB DB g wd vn vl rv us N L R xs XL) {u : Value} {t : List Int} (hr : RowZ w' w.heap.size u t) : ElR (FarR w' (XB RB DB) (rows4 vn vl (.slice none 0 0) rv us [] N L [] R)) w' u t := h.s.fresh hr
/-- the beginning: nothing is in the machine yet -/
theorem TrSt.start (hd : DfaAt w DB g wd (.slice none 0 0) (.slice none 0 0)) (hr : DfaAt w RB zG 0 (.slice none 0 0) (.slice none 0 0)) (hne : RB ≠ DB) (hlo : base ≤ RB ∧ base ≤ DB) (hb : Below base w0 w) (hs : base ≤ w0.heap.size)
    (hx : Els (fun k => k < w.heap.size ∧ k ≠ RB ∧ k ≠ DB) w xs XL) : TrSt w0 base w RB DB g wd (.slice none 0 0) (.slice none 0 0) (.slice none 0 0) [] [] [] [] xs XL := by
  have hob : ∀ r ∈ rows4 (.slice none 0 0) (.slice none 0 0) (.slice none 0 0) (.slice none 0 0) [] [] [] [] [] [], r.v.ownBlock = none := by
    intro r hr
    simp only [rows4, List.mem_cons, List.not_mem_nil, or_false] at hr
    rcases hr with rfl | rfl | rfl | rfl <;> rfl
  refine ⟨⟨⟨?_, ?_, ?_, ?_⟩, hd, hr, hne, hlo, Els.nil _ _, Els.nil _ _, hb, hs⟩, hx.mono fun k hk => ⟨⟨hk.1, ?_, fun r hr => by rw [hob r hr]; simp⟩, rfl⟩⟩
  · intro r hr
    simp only [rows4, List.mem_cons, List.not_mem_nil, or_false] at hr
    rcases hr with rfl | rfl | rfl | rfl <;> exact World.ownsRow_nil _ _ _ _
  · simp [rows4, away, Value.ownBlock]
  · intro r hr k hk
    rw [hob r hr] at hk
    cases hk
  · intro k hX
    have := hd.lt
    have := hr.lt
    rcases hX with e | e <;> omega
  · intro hX
    rcases hX with e | e
    · exact hk.2.1 e
    · exact hk.2.2 e
theorem Els.get {P : Nat → Prop} {w : World} {us : List Value} {L : List (List Int)} (h : Els P w us L) (i : Nat) (hi : i < L.length) : ElR P w (us.getD i undef) (L.getD i []) := h.2 i hi
theorem RowAt.el {B : Nat} {l : List Int} (h : RowAt w B 3 (Value.int .i64) l) (hl : l.length ≤ 100000) {n : Nat} (hn : n = l.length) {P : Nat → Prop} (hP : P B) : ElR P w (.slice (some ⟨B, 0, none⟩) n n) l := by
  subst hn
  exact ⟨_, l.length, rfl, Nat.le_refl _, by unfold maxLen; omega, (fun e => by cases e), fun _ => ⟨B, 0, rfl, hP, fun i hi => by rw [Nat.zero_add]; exact h.cell hi 0⟩⟩
/-- the machine that was built comes back -/
theorem TrSt.reads (h : TrSt w0 base w RB DB g wd vn vl rv us N L R xs XL) (hg : w.grownBy w' (some RB)) (hcl : ∀ j, j < 256 → g j < 256) : RdDfa w'.heap.size w' vn vl ⟨g, wd, N, L⟩ := by
  have hk : ∀ j, FarR w (XB RB DB) (rows4 vn vl (.slice none 0 0) rv us [] N L [] R) j → j < w'.heap.size ∧ w'.heap[j]? = w.heap[j]? := fun j hj =>
    ⟨Nat.lt_of_lt_of_le hj.1 hg.size, hg.block j hj.1 fun e => hj.2.1 (.inl (by simpa using e))⟩
  refine ⟨(h.s.elN.mono hk).reads (World.ownsRow.kept h.s.rowN hg (.inr fun e => h.s.own.out ⟨24, 1, vn, N.length, us⟩ (by simp [rows4]) RB e (.inl rfl))) fun _ hj => hj, ?_, hcl⟩
  have hL : RowZ w' base vl L := World.ownsRow.kept h.s.rowL hg (.inr fun e => h.s.own.out ⟨3, 1, vl, L.length, L.map (Value.int .i64)⟩ (by simp [rows4]) RB e (.inl rfl))
  exact hL.reads
end
set_option maxRecDepth 100000 in
/-- a machine with its classes and its width alone -/
theorem run_build_dfa2 (g : Nat → Nat) (wd : Int) (w : World) : (Instr.build 26 #[(0, ar g), (1, .int .i64 wd)]).run Tryz.prog w = .ok (dfaA g wd (.slice none 0 0) (.slice none 0 0)) w := by
  refine run_build w 26 _ _ ?_
  kernel_rfl
theorem build_dfa2 {ops : Array Oper} {rest : List Oper} {o : Oper} {a : Act} {w : World} {Q : Exit → Act → World → Prop} (hgd : o.guard = none) {x y : Operand} (ho : o.op = .build 26 #[(0, x), (1, y)])
    {g : Nat → Nat} {wd : Int} (hx : a.eval x = ar g) (hy : a.eval y = .int .i64 wd) (h : wpList Tryz.prog ops Q rest (a.put o.dst (dfaA g wd (.slice none 0 0) (.slice none 0 0))) w) : wpList Tryz.prog ops Q (o :: rest) a w :=
  wpList_plain hgd fun _ hK => by
    have hb := run_build_dfa2 g wd w
    unfold Oper.wp execOp
    simp only [ho, List.map_toArray, List.map_cons, List.map_nil, hx, hy, Sem.run_bind, Result.andThen_ok, hb]
    exact hK _ _ h
theorem ret_dfa1 {fn : Func} {R : Ending → World → Prop} {a : Act} {w : World} {B p : Nat} {g : Nat → Nat} {wd : Int} {vn vl : Value} (h : fn.results = #[.cell p 26]) (hp : a.tmps.getD p undef = .pointer (some ⟨B, 0, none⟩))
    (hd : a.defers = []) (hA : DfaAt w B g wd vn vl) (hR : R (.returned (dfaA g wd vn vl)) w) : bodyPost Tryz.prog fn R .ret a w :=
  bodyPost_ret (results_cell_row h _ w B 26 _ (0, 0) _ hp hA Tryz.underlying26 rfl (by rw [dfaC_size]; exact size_dfa)) hd hR
theorem does_load_dfaT {o : Oper} {ρ : Tmp → Value} {w : World} {Kv : Value → World → Prop} {x : Tmp} {B : Nat} {g : Nat → Nat} {wd : Int} {vn vl : Value} (ho : o.op = .load 26 (.tmp x)) (hx : ρ x = .pointer (some ⟨B, 0, none⟩)) (hA : DfaAt w B g wd vn vl) (h : Kv (dfaA g wd vn vl) w) : Rl.Does Tryz.prog o ρ w Kv := by
  have hl := run_load_dfa hA
  unfold Rl.Does execOp
  simp only [ho, Rl.evalR_tmp, hx, Instr.loadAt, Instr.sureAddr, Sem.run_bind, Sem.run_pure, Result.andThen_ok, hl]
  exact h
/-- a machine is handed out -/
def RetD (w : World) (M : DfaM) (e : Ending) (w' : World) : Prop := ∃ vn vl, e = .returned (dfaA M.cls M.width vn vl) ∧ RdDfa w'.heap.size w' vn vl M ∧ Below w.heap.size w w'
theorem zeroD_reads (w : World) {B : Nat} : RdDfa B w (.slice none 0 0) (.slice none 0 0) zeroD :=
  ⟨⟨none, 0, rfl, by simp [zeroD], by decide, fun _ => rfl, fun hp => by simp [zeroD] at hp⟩, ⟨none, 0, rfl, by simp [zeroD], by decide, fun _ => rfl, fun hp => by simp [zeroD] at hp⟩, fun j _ => by simp [zeroD]⟩
def RdBoolV (l : List Bool) (v : Value) (w : World) : Prop := RdB w.heap.size w v l
/-- the numbers of the states below i that count -/
def numD (D : DfaM) (i : Nat) : List Int := (List.range D.next.length).map fun j => if j < i then (if kept D j = true then (rankD D j : Int) else -1) else 0
theorem numD_len (D : DfaM) (i : Nat) : (numD D i).length = D.next.length := by simp [numD]
theorem numD_zero (D : DfaM) : numD D 0 = List.replicate D.next.length 0 := by
  refine List.ext_getElem (by simp [numD]) fun i h1 h2 => ?_
  simp [numD]
theorem numD_more (D : DfaM) (i : Nat) : (numD D i).set i (if kept D i = true then (rankD D i : Int) else -1) = numD D (i + 1) := by
  refine List.ext_getElem (by simp [numD]) fun k h1 h2 => ?_
  rw [List.getElem_set]
  simp only [numD, List.getElem_map, List.getElem_range]
  by_cases e : i = k
  · subst e
    simp
  · rw [if_neg e]
    by_cases h : k < i
    · rw [if_pos h, if_pos (Nat.lt_succ_of_lt h)]
    · rw [if_neg h, if_neg (fun h2 => h (by omega))]
theorem rank_more (D : DfaM) (i : Nat) : rankD D (i + 1) = rankD D i + if kept D i = true then 1 else 0 := by
  unfold rankD
  rw [keptL_more, List.length_append]
  by_cases h : kept D i = true <;> simp [h]
theorem rank_le (D : DfaM) (i : Nat) : rankD D i ≤ i := by
  unfold rankD keptL
  exact Nat.le_trans (List.length_filter_le _ _) (by simp)
theorem rep_map (n : Nat) : Array.replicate n (Value.int IntKind.i64 0) = ((List.replicate n (0 : Int)).map (Value.int IntKind.i64)).toArray := by
  rw [List.map_replicate, List.toArray_replicate]
theorem numD_at {D : DfaM} {j : Nat} (hj : j < D.next.length) : (numD D D.next.length).getD j 0 = if kept D j = true then (rankD D j : Int) else -1 := by
  rw [getD_lt (by rw [numD_len]; exact hj)]
  simp only [numD, List.getElem_map, List.getElem_range]
  rw [if_pos hj]
theorem ren_num {D : DfaM} {x : Int} (h0 : 0 ≤ x) (h1 : x < D.next.length) : (numD D D.next.length).getD x.toNat 0 = renD D x := by
  rw [numD_at (by omega)]
  unfold renD
  rw [if_neg (show ¬ x < 0 by omega)]
/-- what stands in the machine behind i states -/
def trN (D : DfaM) (i : Nat) : List (List Int) := (keptL D i).map fun j => (D.next.getD j []).map (renD D)
def trL (D : DfaM) (i : Nat) : List Int := (keptL D i).map fun j => D.label.getD j 0
def trR (D : DfaM) (i c : Nat) : List Int := (List.range c).map fun d => renD D (toD D i d)
theorem trN_more (D : DfaM) (i : Nat) : trN D (i + 1) = trN D i ++ if kept D i = true then [(D.next.getD i []).map (renD D)] else [] := by
  unfold trN
  rw [keptL_more, List.map_append]
  by_cases h : kept D i = true <;> simp [h]
theorem trL_more (D : DfaM) (i : Nat) : trL D (i + 1) = trL D i ++ if kept D i = true then [D.label.getD i 0] else [] := by
  unfold trL
  rw [keptL_more, List.map_append]
  by_cases h : kept D i = true <;> simp [h]
theorem trR_more (D : DfaM) (i c : Nat) : trR D i (c + 1) = trR D i c ++ [renD D (toD D i c)] := by
  unfold trR
  rw [List.range_succ, List.map_append]
  rfl
theorem trR_all {D : DfaM} {i W : Nat} (h : (D.next.getD i []).length = W) : trR D i W = (D.next.getD i []).map (renD D) := by
  unfold trR
  refine List.ext_getElem (by rw [List.length_map, List.length_range, List.length_map]; exact h.symm) fun k h1 h2 => ?_
  rw [List.getElem_map, List.getElem_map, List.getElem_range]
  unfold toD
  rw [getD_lt (by simpa using h2)]
theorem trX_is (D : DfaM) : trimX D = ⟨D.cls, D.width, trN D D.next.length, trL D D.next.length⟩ := rfl
theorem tr_len (D : DfaM) (i : Nat) : (trN D i).length ≤ i ∧ (trL D i).length ≤ i ∧ (trN D i).length = (trL D i).length := by
  have := rank_le D i
  unfold rankD at this
  simp [trN, trL]
  exact this
theorem ElR.cellN {P : Nat → Prop} {w : World} {NB n : Nat} {l : List Int} (h : ElR P w (.slice (some ⟨NB, 0, none⟩) n n) l) {i : Nat} (hi : i < l.length) : P NB ∧ w.cell? ⟨NB, i, none⟩ = some (.int .i64 (l.getD i 0)) := by
  obtain ⟨a, c, e, _, _, _, h4⟩ := h
  simp only [Value.slice.injEq] at e
  obtain ⟨rfl, _, _⟩ := e
  obtain ⟨b, off, e, hP, hc⟩ := h4 (by omega)
  simp only [Option.some.injEq, Addr.mk.injEq, and_true] at e
  obtain ⟨rfl, rfl⟩ := e
  refine ⟨hP, ?_⟩
  have := hc i hi
  rwa [Nat.zero_add] at this
end Go.Proofs.YtnjjbaodfjmiaaaGreat

/- Contract of the reference's Tokens. -/
namespace Go.Proofs.YtnjjbaodfjmiaaaGreat
open Go.RowKit Go.Lib Go.Joins

def tokL (D : DfaM) : Nat → List Int
  | 0 => []
  | i + 1 => tokL D i ++ if On (reachedL D) i ∧ 0 ≤ D.label.getD i 0 then [D.label.getD i 0] else []
def tokM (D : DfaM) : List Int := ofV (tokL D (reachedL D).length)
theorem tokL_len (D : DfaM) : ∀ i, (tokL D i).length ≤ i
  | 0 => Nat.le_refl _
  | i + 1 => by
    unfold tokL
    rw [List.length_append]
    have := tokL_len D i
    split
    · simp; omega
    · simp; omega
theorem RdB.grown {B : Nat} {w w' : World} {v : Value} {l : List Bool} (h : RdB B w v l) {o : Option Nat} (hg : w.grownBy w' o) (ho : ∀ k, v.ownBlock = some k → o ≠ some k) : RdB B w' v l := by
  obtain ⟨a, c, rfl, h1, h2, h3, h4⟩ := h
  refine ⟨a, c, rfl, h1, h2, h3, fun hp => ?_⟩
  obtain ⟨b, off, rfl, hb, hc⟩ := h4 hp
  exact ⟨b, off, rfl, hb, fun i hi => hg.cell (hc i hi) fun e => ho b rfl e.symm⟩
set_option maxHeartbeats 4000000 in
set_option maxRecDepth 100000 in
theorem rtokens_calls {w : World} {vn vl : Value} {D : DfaM} (h : RdDfa w.heap.size w vn vl D) (hN : D.next.length ≤ 1000) :
    Calls Tryz.prog 21 #[dfaA D.cls D.width vn vl] w (RetZ w (tokM D)) := by
  obtain ⟨an, cn, rfl⟩ := h.next.form
  obtain ⟨al, cl, rfl⟩ := h.label.form
  have HRE := hidden (fun w' (hb : Below w.heap.size w w') => rreached_calls (h.below hb hb.size) hN)
  have HD := hidden h
  obtain ⟨ln, hln⟩ : ∃ m, m = D.label.length := ⟨_, rfl⟩
  have HX := hidden (DfaAt.new w D.cls D.width (.slice an D.next.length cn) (.slice al D.label.length cl))
  have HB0 := hidden ((Below.refl w.heap.size w).alloc (Nat.le_refl _) (.cells (dfaC D.cls D.width (.slice an D.next.length cn) (.slice al D.label.length cl)) 26))
  have hbx := run_box_dfa D.cls D.width (.slice an D.next.length cn) (.slice al D.label.length cl)
  rw [← hln] at HD HX HB0 HRE hbx ⊢
  have HLN := hidden hln
  have HNN := hidden (show (reachedL D).length ≤ 1000 ∧ (0 < (reachedL D).length → (reachedL D).length = ln) by
    cases hr : rightD D with
    | false => unfold reachedL; rw [if_neg (by simp [hr])]; simp
    | true => rw [reached_len hr]; have := (rightD_spec hr).2.2.2.1; omega)
  obtain ⟨rl, hrl⟩ : ∃ r, r = reachedL D := ⟨_, rfl⟩
  rw [← hrl] at HRE HNN
  have HRL := hidden hrl
  have HXb := hidden (HX.out.alloc (.cells #[] 3))
  clear h hln hrl
  go_enter Tryz.func21, Tryz.ntmps21
  go_wp2_with (refine load_dfa rfl (x := .tmp 1) rfl rfl HXb.out ?_)
  obtain ⟨w0, hw0⟩ : ∃ w0, w0 = w.alloc (.cells (dfaC D.cls D.width (.slice an D.next.length cn) (.slice al ln cl)) 26) := ⟨_, rfl⟩
  have hs0 : w0.heap.size = w.heap.size + 1 := by rw [hw0]; simp
  rw [← hw0] at HX HB0 HXb ⊢
  rw [← hs0]
  have HL0 := hidden (show RowZ (w0.alloc (.cells #[] 3)) w0.heap.size (.slice (some ⟨w0.heap.size, 0, none⟩) 0 0) [] from RowZ.lit w0 _ rfl _ rfl)
  have HBw := hidden (HB0.out.alloc HB0.out.size (.cells #[] 3))
  have HSZ := hidden (show w.heap.size < w0.heap.size by omega)
  clear hw0 hbx
  obtain ⟨wa, hwa⟩ : ∃ wa, wa = w0.alloc (.cells #[] 3) := ⟨_, rfl⟩
  have hwas : wa.heap.size = w0.heap.size + 1 := by rw [hwa]; simp
  rw [← hwa] at HXb HL0 HBw ⊢
  clear hwa
  refine (HRE.out _ HBw.out).mono ?_
  rintro e w1 ⟨rv, rfl, hrr, hb1, hnew⟩
  obtain ⟨ra, rc, hrv⟩ := hrr.form
  subst hrv
  have HX1 := hidden (HXb.out.below hb1)
  have HL1 := hidden (HL0.out.kept hb1)
  have HB1 := hidden (below_then HBw.out HBw.out.size hb1)
  have HR1 := hidden hrr
  have HNE := hidden (show ∀ k, (Value.slice ra rl.length rc).ownBlock = some k → w0.heap.size < k from fun k hk => by have := hnew k hk; omega)
  have hz1 := hb1.size
  obtain ⟨n, hn⟩ : ∃ n, n = rl.length := ⟨_, rfl⟩
  rw [← hn] at HR1 HNE HNN ⊢
  have HN := hidden hn
  clear hb1 hnew hrr HXb HL0 HBw hn
  go_wp2
  rw [hs0] at HL1 HNE HSZ
  obtain ⟨B0, hB0⟩ : ∃ b, b = w.heap.size + 1 := ⟨_, rfl⟩
  rw [← hB0] at HL1 HNE HSZ ⊢
  have hn1 : n ≤ 1000 := HNN.out.1
  have HBL := hidden (show B0 ≤ w1.heap.size by omega)
  clear hs0 hB0 hwas hz1
  go_loopw [3, 5] (fun lv iv wr => ∃ i : Nat, i ≤ n ∧ iv = .int .i64 i ∧ RowZ wr B0 lv (tokL D i) ∧ DfaAt wr w.heap.size D.cls D.width (.slice an D.next.length cn) (.slice al ln cl) ∧ RdB w1.heap.size wr (.slice ra n rc) rl ∧ Below w.heap.size w wr ∧ (∀ k, (Value.slice ra n rc).ownBlock = some k → lv.ownBlock ≠ some k) ∧ w1.heap.size ≤ wr.heap.size) (fun _ i _ => n - (Go.RowKit.intOf i).toNat)
  case atStart =>
    exact ⟨0, by omega, rfl, HL1.out, HX1.out, HR1.out, HB1.out, fun k hk e => by
      have := HNE.out k hk
      simp only [Value.ownBlock, Option.some.injEq] at e
      omega, Nat.le_refl _⟩
  case round =>
    obtain ⟨i, hi, rfl, hL, hX, hR, hB, hap, hsz⟩ := hrel
    obtain ⟨la, lc, hlv⟩ := hL.form
    subst hlv
    have HL := hidden hL
    have HXx := hidden hX
    have HR := hidden hR
    have HB := hidden hB
    have HAP := hidden hap
    have HTL := hidden (tokL_len D i)
    have HMO := hidden (show tokL D (i + 1) = tokL D i ++ if On rl i ∧ 0 ≤ D.label.getD i 0 then [D.label.getD i 0] else [] from by rw [HRL.out]; rfl)
    have e3 := hX.label
    clear hL hX hR hB hap
    by_cases hlt : i < n
    · obtain ⟨b1, o1, hra, _, c1⟩ := HR.out.at (Below.refl _ _) i (by rw [← HN.out]; exact hlt)
      subst hra
      rw [getD_on] at c1
      have HLNN := hidden (show n = ln from HNN.out.2 (by omega))
      obtain ⟨b9, o9, hal9, _, q9⟩ := HD.out.label.atZ HB.out i (by rw [← HLN.out, ← HLNN.out]; exact hlt)
      subst hal9
      have hil : (i : Int) < (ln : Int) := by have := HLNN.out; omega
      obtain ⟨lx, hlx⟩ : ∃ x, x = D.label.getD i 0 := ⟨_, rfl⟩
      rw [← hlx] at q9 HMO
      clear hlx
      by_cases ho : On rl i
      · rw [decide_eq_true ho] at c1
        by_cases h0 : 0 ≤ lx
        · rw [if_pos ⟨ho, h0⟩] at HMO
          obtain ⟨tl, htl⟩ : ∃ n, n = (tokL D i).length := ⟨_, rfl⟩
          have hal3 : Below wr.heap.size wr (wr.alloc (.cells #[.int .i64 lx] 3)) := (Below.refl wr.heap.size wr).alloc (Nat.le_refl _) _
          have hown := HL.out.kept hal3
          unfold RowZ at hown
          rw [← htl] at hown ⊢
          have HOW := hidden hown
          have HXa := hidden (HXx.out.below hal3)
          have HRa := hidden (HR.out.below (hal3.mono hsz) (Nat.le_refl _))
          have HBa := hidden (below_then HB.out HB.out.size hal3)
          have HI := hidden infoInt
          have hsa : wr.heap.size + 1 = (wr.alloc (.cells #[.int .i64 lx] 3)).heap.size := by simp
          have HBS := hidden (show B0 ≤ (wr.alloc (.cells #[.int .i64 lx] 3)).heap.size by have := HBL.out; omega)
          have HLNB := hidden (show tl + 1 ≤ 1000000 by have := HTL.out; have := HNN.out.1; omega)
          have HTE := hidden htl
          have hsz' := hsz
          clear ho hown hal3 htl
          go_wp2_with (at_builtin; (first | refine wpList_app (v := .slice la tl lc) rfl _ _ rfl HI.out Tryz.underlying24 rfl (by decide) (by decide) rfl HOW.out rfl (Src.one wr (.int .i64 lx) 3 _ rfl) (by simp) (by simp [Value.oneCell']) HLNB.out HBS.out ?_ | refine wp_app (v := .slice la tl lc) _ _ rfl HI.out Tryz.underlying24 rfl (by decide) (by decide) rfl HOW.out rfl (Src.one wr (.int .i64 lx) 3 _ rfl) (by simp) (by simp [Value.oneCell']) HLNB.out HBS.out ?_); intro v13 w13 hA; have HA13 := hidden hA; obtain ⟨a13, c13, hv13⟩ := row_slice14 hA.own; subst hv13; clear hA)
          go_roundw
          case rel =>
            have hA := HA13.out
            have hg := hA.grown
            have hlow := World.ownsRow.lt HOW.out
            refine ⟨i + 1, by omega, by go_num, ?_, HXa.out.grown hg fun e => by have := (hlow _ e).1; have := HSZ.out; omega, HRa.out.grown hg (fun k hk e => HAP.out k hk (by rw [← HTE.out]; exact e)), HBa.out.grown hg HBa.out.size (fun k hk => by have := (hlow k hk).1; have := HSZ.out; omega), fun k hk e => ?_, by have := hg.size; omega⟩
            · rw [HMO.out]
              unfold RowZ
              rw [List.length_append, ← HTE.out, List.map_append]
              exact hA.own
            · rcases hA.at k e with e2 | e2
              · exact HAP.out k hk (by rw [← HTE.out]; exact e2)
              · have h5 : k < w1.heap.size := by
                  obtain ⟨_, _, e5, _, _, _, h6⟩ := HR.out
                  obtain ⟨b5, _, e6, h7, _⟩ := h6 (by have := HN.out; omega)
                  simp only [Value.slice.injEq] at e5
                  rw [e6] at e5
                  simp only [Option.some.injEq, Addr.mk.injEq] at e5
                  simp only [Value.ownBlock, Option.some.injEq] at hk
                  omega
                omega
          case measure => simp [Go.RowKit.intOf]; omega
        · rw [if_neg (fun h => h0 h.2), List.append_nil] at HMO
          have h0d : decide (0 ≤ lx) = false := decide_eq_false h0
          clear ho
          go_wp2
          go_roundw
          case rel => exact ⟨i + 1, by omega, by go_num, by rw [HMO.out]; exact HL.out, HXx.out, HR.out, HB.out, HAP.out, hsz⟩
          case measure => simp [Go.RowKit.intOf]; omega
      · rw [decide_eq_false ho] at c1
        rw [if_neg (fun h => ho h.1), List.append_nil] at HMO
        clear ho
        go_wp2
        go_roundw
        case rel => exact ⟨i + 1, by omega, by go_num, by rw [HMO.out]; exact HL.out, HXx.out, HR.out, HB.out, HAP.out, hsz⟩
        case measure => simp [Go.RowKit.intOf]; omega
    · obtain rfl : n = i := by omega
      have HT := hidden (show tokM D = ofV (tokL D n) by unfold tokM; rw [HN.out, ← HRL.out])
      have HOF := hidden (rof11_calls wr _ (tokL D n) HL.out.reads (by have := HTL.out; have := HNN.out.1; omega))
      go_wp2_with fail
      refine HOF.out.mono ?_
      rintro e w9 ⟨v, rfl, hr9, hb9⟩
      obtain ⟨a9, c9, hv9⟩ := hr9.form
      subst hv9
      have HR9 := hidden (show RowZ w9 w.heap.size _ _ from hr9.lower HB.out.size)
      have HB9 := hidden (below_then HB.out HB.out.size hb9)
      clear hr9 hb9
      go_wp2
      go_ret
      exact ⟨_, rfl, by rw [HT.out]; exact HR9.out, HB9.out⟩
end Go.Proofs.YtnjjbaodfjmiaaaGreat
