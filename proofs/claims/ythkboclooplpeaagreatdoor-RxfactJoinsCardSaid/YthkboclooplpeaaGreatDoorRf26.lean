/- FaLink, FaNSet, put together. -/
import Derived.Test.YthkboclooplpeaaGreatDoorRf25
import Derived.Deep.RegionLaw
import Derived.Deep.AppendLies
/- net.link: the places of one set may stand behind those of another one. -/
namespace Go.Proofs.YthkboclooplpeaaGreatDoor
open Go.RowKit Go.Lib Go.Joins
attribute [local go_sem] evalR_tmp evalR_const evalR_global evalR_func
theorem flat_cell : ∀ (L : List (Nat → Bool)) (p : Nat), p < L.length → ∀ j, j < 4 → (L.flatMap netC)[p * 4 + j]? = some (.int .u64 (word (L.getD p fNone) j))
  | [], p, h, _, _ => by simp at h
  | x :: r, 0, _, j, hj => by
    rw [List.flatMap_cons, List.getElem?_append_left (by rw [netC_length]; omega)]
    match j, hj with
    | 0, _ | 1, _ | 2, _ | 3, _ => rfl
  | x :: r, p + 1, h, j, hj => by
    rw [List.flatMap_cons, List.getElem?_append_right (by rw [netC_length]; omega), netC_length, show (p + 1) * 4 + j - 4 = p * 4 + j by omega, flat_cell r p (by simpa using h) j hj]
    rfl
theorem arr32 {t : Array Value} (h : t.size = 32) : t = #[t.getD 0 undef, t.getD 1 undef, t.getD 2 undef, t.getD 3 undef, t.getD 4 undef, t.getD 5 undef, t.getD 6 undef, t.getD 7 undef, t.getD 8 undef, t.getD 9 undef, t.getD 10 undef, t.getD 11 undef, t.getD 12 undef, t.getD 13 undef, t.getD 14 undef, t.getD 15 undef, t.getD 16 undef, t.getD 17 undef, t.getD 18 undef, t.getD 19 undef, t.getD 20 undef, t.getD 21 undef, t.getD 22 undef, t.getD 23 undef, t.getD 24 undef, t.getD 25 undef, t.getD 26 undef, t.getD 27 undef, t.getD 28 undef, t.getD 29 undef, t.getD 30 undef, t.getD 31 undef] := (arr_split t).trans (by rw [h]; rfl)
/-- what stays while one element of the row is made -/
structure Wlk (NB base w0 gn cn m p : Nat) (vs : Value) (S N : List Value) (G T : Nat → Bool) (wr w : World) : Prop where
  net : NetV w NB base vs (.slice (some ⟨gn, 0, none⟩) m cn) m S N
  to : SetAt w (w0 + 1) T
  cell : ∀ j, j < 4 → w.cell? ⟨gn, p * 4 + j, none⟩ = some (.int .u64 (word G j))
  frame : Below wr.heap.size wr w
theorem Wlk.below {NB base w0 gn cn m p : Nat} {vs : Value} {S N : List Value} {G T : Nat → Bool} {wr w w' : World} (h : Wlk NB base w0 gn cn m p vs S N G T wr w) (hb : Below w.heap.size w w') : Wlk NB base w0 gn cn m p vs S N G T wr w' :=
  ⟨h.net.below hb, h.to.below hb, fun j hj => (hb.cell (p := ⟨gn, p * 4 + j, none⟩) (cell_lt (h.cell j hj))).trans (h.cell j hj), below_then h.frame h.frame.size hb⟩
theorem Wlk.cells {NB base w0 gn cn m p : Nat} {vs : Value} {S N : List Value} {G T : Nat → Bool} {wr w : World} (h : Wlk NB base w0 gn cn m p vs S N G T wr w) :
    (w.cell? ⟨NB, 0, none⟩ = some vs ∧ w.cell? ⟨NB, 1, none⟩ = some (.slice (some ⟨gn, 0, none⟩) m cn)) ∧ (w.cell? ⟨w0 + 1, 0, none⟩ = some (.int .u64 (word T 0)) ∧ w.cell? ⟨w0 + 1, 1, none⟩ = some (.int .u64 (word T 1)) ∧ w.cell? ⟨w0 + 1, 2, none⟩ = some (.int .u64 (word T 2)) ∧ w.cell? ⟨w0 + 1, 3, none⟩ = some (.int .u64 (word T 3)) ∧ True) ∧ w.cell? ⟨gn, p * 4, none⟩ = some (.int .u64 (word G 0)) ∧ w.cell? ⟨gn, p * 4 + 1, none⟩ = some (.int .u64 (word G 1)) ∧ w.cell? ⟨gn, p * 4 + 2, none⟩ = some (.int .u64 (word G 2)) ∧ w.cell? ⟨gn, p * 4 + 3, none⟩ = some (.int .u64 (word G 3)) := by
  obtain ⟨d0, d1, d2, d3, _⟩ := h.to.facts
  exact ⟨h.net.cells, ⟨d0, d1, d2, d3, trivial⟩, h.cell 0 (by omega), h.cell 1 (by omega), h.cell 2 (by omega), h.cell 3 (by omega)⟩
def Llk (NB gn cn m p : Nat) (G T : Nat → Bool) : List (Value → World → Prop) := [
  Is (.pointer (some ⟨NB, 0, none⟩)), Is (.pointer (some ⟨NB, 0, none⟩)), Is (.pointer (some ⟨NB, 1, none⟩)), Is (.slice (some ⟨gn, 0, none⟩) m cn), Is (.int .u8 (p : Int)), Is (.pointer (some ⟨NB, 0, none⟩)), Is (.pointer (some ⟨NB, 0, none⟩)), Is (.pointer (some ⟨NB, 1, none⟩)), Is (.slice (some ⟨gn, 0, none⟩) m cn), Is (.int .u8 (p : Int)), Is (.pointer (some ⟨gn, p * 4, none⟩)), Is (.agg #[.int .u64 (word (G) 0), .int .u64 (word (G) 1), .int .u64 (word (G) 2), .int .u64 (word (G) 3)]), Is (.agg #[.int .u64 (word (T) 0), .int .u64 (word (T) 1), .int .u64 (word (T) 2), .int .u64 (word (T) 3)]), fun v w => ∃ ad, v = .slice ad 2 2 ∧ Sets w ad 2 [G, T], Is (.agg #[.int .u64 (word (fAny [G, T]) 0), .int .u64 (word (fAny [G, T]) 1), .int .u64 (word (fAny [G, T]) 2), .int .u64 (word (fAny [G, T]) 3)]), Is (.pointer (some ⟨gn, p * 4, none⟩))]
theorem Llk.mono (NB gn cn m p : Nat) (G T : Nat → Bool) : ∀ P ∈ Llk NB gn cn m p G T, ∀ v w w', P v w → Below w.heap.size w w' → P v w' := by
  simp only [Llk, List.forall_mem_cons]
  repeat' (first | exact is_mono _ | (intro p hp; cases hp; done) | exact (fun v w w' h _ => h) | refine And.intro ?_ ?_)
  all_goals
    rintro v w w' ⟨ad, rfl, h⟩ hb
    exact ⟨ad, rfl, sets_mono h hb⟩
/-- the links that have been laid behind the first k places -/
def lnk (E : Nat → Nat → Bool) (F T : Nat → Bool) (k p q : Nat) : Bool := E p q || (((elems F).take k).contains p && T q)
theorem lnk_zero (E : Nat → Nat → Bool) (F T : Nat → Bool) : lnk E F T 0 = E := by
  funext p q
  simp [lnk]
theorem lnk_all (E : Nat → Nat → Bool) (F T : Nat → Bool) (p q : Nat) (hp : p < 256) : lnk E F T (elems F).length p q = (E p q || (F p && T q)) := by
  have h : (elems F).contains p = F p := by
    rw [Bool.eq_iff_iff, List.contains_iff_mem]
    simp [elems, hp]
  unfold lnk
  rw [List.take_of_length_le (Nat.le_refl _), h]
theorem lnk_next (E : Nat → Nat → Bool) (F T : Nat → Bool) (m k : Nat) (hk : k < (elems F).length) : ((((List.range m).map (lnk E F T k)).set ((elems F).getD k 0) (fAny [lnk E F T k ((elems F).getD k 0), T])).flatMap netC) = ((List.range m).map (lnk E F T (k + 1))).flatMap netC := by
  rw [range_set, List.flatMap_map, List.flatMap_map]
  refine flatMap_same _ fun i _ => word_same fun q _ => ?_
  have ht : (elems F).take (k + 1) = (elems F).take k ++ [(elems F).getD k 0] := by
    rw [List.take_add_one, List.getD_eq_getElem?_getD, List.getElem?_eq_getElem hk]
    rfl
  by_cases h : i = (elems F).getD k 0
  · rw [if_pos h, any_two]
    subst h
    simp only [f2, lnk, ht]
    rw [show ((elems F).take k ++ [(elems F).getD k 0]).contains ((elems F).getD k 0) = true by rw [List.contains_iff_mem]; simp]
    cases E ((elems F).getD k 0) q <;> cases T q <;> simp
  · rw [if_neg h]
    simp only [lnk, ht]
    congr 2
    rw [Bool.eq_iff_iff, List.contains_iff_mem, List.contains_iff_mem, List.mem_append, List.mem_singleton]
    exact (or_iff_left h).symm
set_option maxHeartbeats 8000000 in
set_option maxRecDepth 100000 in
theorem link_calls {w : World} {NB base : Nat} {S : List (Nat → Bool)} {E : Nat → Nat → Bool} (F T : Nat → Bool) (h_ : NetAt w NB base S E) (ht : Tab w) (hm : S.length ≤ 256) (hF : ∀ p, p < 256 → F p = true → p < S.length) :
    Calls Tryz.prog 122 #[.pointer (some ⟨NB, 0, none⟩), (.agg #[.int .u64 (word (F) 0), .int .u64 (word (F) 1), .int .u64 (word (F) 2), .int .u64 (word (F) 3)]), (.agg #[.int .u64 (word (T) 0), .int .u64 (word (T) 1), .int .u64 (word (T) 2), .int .u64 (word (T) 3)])] w fun e w' => e = .returned (.tuple #[]) ∧ NetAt w' NB base S (fun p q => E p q || (F p && T q)) ∧ Mv (fun _ => False) base w w' := by
  have HTAB := hidden ht
  obtain ⟨vs, vn, hn⟩ := id h_
  have hNB := hn.lt
  have hel : ∀ k, k < (elems F).length → (elems F).getD k 0 < S.length ∧ (elems F).getD k 0 < 256 := fun k hk => by
    have := List.getElem_mem hk
    rw [List.getD_eq_getElem?_getD, List.getElem?_eq_getElem hk]
    simp only [elems, List.mem_filter, List.mem_range] at this
    exact ⟨hF _ this.1 this.2, this.1⟩
  obtain ⟨W, hW⟩ : ∃ W, W = (w.alloc (.cells #[.int .u64 (word (F) 0), .int .u64 (word (F) 1), .int .u64 (word (F) 2), .int .u64 (word (F) 3)] 33)).alloc (.cells #[.int .u64 (word (T) 0), .int .u64 (word (T) 1), .int .u64 (word (T) 2), .int .u64 (word (T) 3)] 33) := ⟨_, rfl⟩
  have hba : Below w.heap.size w W := by rw [hW]; exact ((Below.refl w.heap.size w).alloc (Nat.le_refl _) _).alloc (by simp) _
  have hWs : W.heap.size = w.heap.size + 2 := by rw [hW]; simp
  have hT : SetAt W (w.heap.size + 1) T := by rw [hW]; exact heap_alloc2_new w _ _
  have HBY := hidden (bytes_calls F W (ht.below hba))
  have HN := hidden (hn.below hba)
  have HB := hidden hba
  have HT := hidden hT
  have HEL := hidden hel
  have HWD := hidden hW
  rw [hW] at HBY
  have hvn : vn.ownBlock = none ∨ ∃ g, vn.ownBlock = some g ∧ g < w.heap.size ∧ RowS w base g := by
    rcases hn.next.2 with ⟨rfl, _⟩ | ⟨g, cap, cur, rfl, hb, hg, _⟩
    · exact .inl rfl
    · exact .inr ⟨g, rfl, (Array.getElem?_eq_some_iff.1 hg).1, hb, cur, _, hg⟩
  have HVN := hidden hvn
  have HLN := hidden (fun k (hk : k < (elems F).length) => lnk_next E F T S.length k hk)
  have HLA := hidden (fun p (hp : p < 256) q => lnk_all E F T p q hp)
  have hel2 := elems_le F
  obtain ⟨n, hn0⟩ : ∃ n, n = (elems F).length := ⟨_, rfl⟩
  rw [← hn0] at HLN HEL hel2
  have HNE := hidden hn0
  clear hW hba hT hn hel hvn h_ hn0 ht
  go_enter Tryz.func122, Tryz.ntmps122
  go_wp2_with fail
  refine HBY.out.mono ?_
  rintro e w2 ⟨v, rfl, hrow, hb2⟩
  rw [← HWD.out] at hb2
  rw [← HNE.out] at hrow
  have HN2 := hidden (HN.out.below hb2)
  have HT2 := hidden (HT.out.below hb2)
  have HB2 := hidden (below_then HB.out HB.out.size hb2)
  have hs2 : w.heap.size + 2 ≤ w2.heap.size := by have := hb2.size; omega
  obtain ⟨av, cb, rfl, hform⟩ : ∃ av cb, v = .slice av n cb ∧ ((av = none ∧ n = 0) ∨ ∃ gb, av = some ⟨gb, 0, none⟩ ∧ w.heap.size + 2 ≤ gb) := by
    rcases row_form hrow with ⟨rfl, h0⟩ | ⟨g0, c0, rfl, h1, _⟩
    · exact ⟨none, 0, by rw [h0], .inl ⟨rfl, h0⟩⟩
    · exact ⟨_, _, rfl, .inr ⟨g0, rfl, by simp at h1; omega⟩⟩
  have HROW := hidden hrow
  have HFM := hidden hform
  clear hb2 hrow hform
  go_wp2
  go_loopw [11] (fun i wr => ∃ k : Nat, k ≤ n ∧ i = .int .i64 k ∧ NetV wr NB base vs vn S.length (S.flatMap netC) (((List.range S.length).map (lnk E F T k)).flatMap netC) ∧ w2.grownBy wr vn.ownBlock) (fun i _ => n - (intOf i).toNat)
  case atStart => exact ⟨0, by omega, rfl, by rw [lnk_zero]; exact HN2.out, ⟨rfl, rfl, rfl, Nat.le_refl _, fun _ _ _ => rfl⟩⟩
  case round =>
    obtain ⟨k, hk, rfl, hnet, hgr⟩ := hrel
    by_cases hlt : k < n
    · obtain ⟨hp, hp2⟩ := HEL.out k hlt
      have hln := HLN.out k hlt
      have hpv : ((elems F).map byteV)[k]? = some (.int .u8 ((elems F).getD k 0 : Nat)) := by
        rw [List.getElem?_map, List.getElem?_eq_getElem (by rw [← HNE.out]; exact hlt), List.getD_eq_getElem?_getD, List.getElem?_eq_getElem (by rw [← HNE.out]; exact hlt)]
        rfl
      generalize (elems F).getD k 0 = p at *
      rcases hnet.next.2 with ⟨_, h0⟩ | ⟨gn, cn, cur0, rfl, hbn, hgn, hmc, _⟩
      · omega
      rcases HFM.out with ⟨_, h0⟩ | ⟨gb, rfl, hgb⟩
      · omega
      obtain ⟨hgn1, hgn2⟩ : gn < w.heap.size ∧ RowS w base gn := by
        rcases HVN.out with h | ⟨g0, e, h1, h2⟩
        · cases h
        · simp only [Value.ownBlock, Option.some.injEq] at e
          subst e
          exact ⟨h1, h2⟩
      have hrw := HROW.out.kept hgr (.inr (by simp [Value.ownBlock]; omega))
      have cby := World.ownsRow.cellAt hrw k (by omega)
      rw [hpv] at cby
      have hTr : SetAt wr (w.heap.size + 1) T := (hgr.block _ (by omega) (by simp [Value.ownBlock]; omega)).trans HT2.out
      have hcell : ∀ j, j < 4 → wr.cell? ⟨gn, p * 4 + j, none⟩ = some (.int .u64 (word (lnk E F T k p) j)) := fun j hj => by
        rw [World.ownsRow.cellAt hnet.next (p * 4 + j) (by omega), flat_cell _ p (by simpa using hp) j hj]
        simp [List.getD_eq_getElem?_getD, hp]
      have HWK := hidden (show Wlk NB base w.heap.size gn cn S.length p vs (S.flatMap netC) (((List.range S.length).map (lnk E F T k)).flatMap netC) (lnk E F T k p) T wr wr.drew from ⟨hnet.below (Below.refl _ _).drew, hTr.below (Below.refl _ _).drew, hcell, (Below.refl _ _).drew⟩)
      generalize lnk E F T k p = G at *
      have HLN2 := hidden hln
      have HNG := hidden (show ¬ NB = gn from fun e => by have := hnet.obj; rw [e, hgn] at this; simp only [Option.some.injEq, Obj.cells.injEq] at this; exact absurd this.2.1 (by decide))
      have HGR := hidden hgr
      have HNT := hidden hnet
      generalize hme : S.length = m at *
      have HM := hidden hme
      clear hme
      have b1 : decide ((p : Int) < 0) = false := decide_eq_false (by omega)
      have b2 : decide ((m : Int) ≤ p) = false := decide_eq_false (by omega)
      have b3 : ((p : Int) < m) := by omega
      clear hln hpv hnet hgr hrw hTr hcell hmc hgn
      go_wp2
      refine wp_region_stepsL 16 (typ (Llk NB gn cn m p G T)) (Wlk NB base w.heap.size gn cn m p vs (S.flatMap netC) (((List.range m).map (lnk E F T k)).flatMap netC) G T wr) (by kernel_rfl) (by kernel_rfl) (by kernel_rfl) (by kernel_rfl) (by kernel_rfl) (by kernel_rfl) (typ_mono (Llk.mono NB gn cn m p G T)) HWK.out ?step ?last
      case last =>
        intro a1 w1 hs hv hW
        have h30 : a1.tmps.getD 30 undef = .pointer (some ⟨gn, p * 4, none⟩) := hv 15 30 (by decide) (by kernel_rfl)
        have h29 : a1.tmps.getD 29 undef = (.agg #[.int .u64 (word (fAny [G, T]) 0), .int .u64 (word (fAny [G, T]) 1), .int .u64 (word (fAny [G, T]) 2), .int .u64 (word (fAny [G, T]) 3)]) := hv 14 29 (by decide) (by kernel_rfl)
        have h0 : a1.tmps.getD 0 undef = .pointer (some ⟨NB, 0, none⟩) := hs.slot 0 (by kernel_rfl)
        have h1 : a1.tmps.getD 1 undef = (.agg #[.int .u64 (word (F) 0), .int .u64 (word (F) 1), .int .u64 (word (F) 2), .int .u64 (word (F) 3)]) := hs.slot 1 (by kernel_rfl)
        have h2 : a1.tmps.getD 2 undef = (.agg #[.int .u64 (word (T) 0), .int .u64 (word (T) 1), .int .u64 (word (T) 2), .int .u64 (word (T) 3)]) := hs.slot 2 (by kernel_rfl)
        have h3 : a1.tmps.getD 3 undef = undef := hs.slot 3 (by kernel_rfl)
        have h4 : a1.tmps.getD 4 undef = .pointer (some ⟨w.heap.size, 0, none⟩) := hs.slot 4 (by kernel_rfl)
        have h5 : a1.tmps.getD 5 undef = .pointer (some ⟨w.heap.size + 1, 0, none⟩) := hs.slot 5 (by kernel_rfl)
        have h6 : a1.tmps.getD 6 undef = undef := hs.slot 6 (by kernel_rfl)
        have h8 : a1.tmps.getD 8 undef = (.agg #[.int .u64 (word (F) 0), .int .u64 (word (F) 1), .int .u64 (word (F) 2), .int .u64 (word (F) 3)]) := hs.slot 8 (by kernel_rfl)
        have h9 : a1.tmps.getD 9 undef = .slice (some ⟨gb, 0, none⟩) n cb := hs.slot 9 (by kernel_rfl)
        have h10 : a1.tmps.getD 10 undef = .int .i64 (n : Int) := hs.slot 10 (by kernel_rfl)
        have h11 : a1.tmps.getD 11 undef = .int .i64 (k : Int) := hs.slot 11 (by kernel_rfl)
        have hd : a1.defers = [] := hs.defers
        have hsz : a1.tmps.size = 32 := hs.size
        obtain ⟨cur, hcur, hroom, hturn⟩ := row_turn hW.net.next p hp
        have hN6 := hturn (netC (fAny [G, T])) rfl
        rw [flat_set netC 4 netC_length _ _ p (by simpa using hp), HLN2.out] at hN6
        have hg6 : w1.grownBy (w1.setRow gn (cur.toList.take (p * 4) ++ netC (fAny [G, T]) ++ cur.toList.drop (p * 4 + 4)).toArray) (some gn) := ⟨rfl, rfl, rfl, by simp, fun i _ hi => setRow_other w1 gn i _ (by simpa using hi)⟩
        have hV6 : NetV (w1.setRow gn (cur.toList.take (p * 4) ++ netC (fAny [G, T]) ++ cur.toList.drop (p * 4 + 4)).toArray) NB base vs (.slice (some ⟨gn, 0, none⟩) m cn) m (S.flatMap netC) (((List.range m).map (lnk E F T (k + 1))).flatMap netC) :=
          ⟨(hg6.block NB hW.net.lt (by simp; exact HNG.out)).trans hW.net.obj, hW.net.sets.kept hg6 (.inr (by rcases hW.net.apart with h | h; (rw [h]; simp); exact h)), hN6, hW.net.apart⟩
        have hG6 : w2.grownBy (w1.setRow gn (cur.toList.take (p * 4) ++ netC (fAny [G, T]) ++ cur.toList.drop (p * 4 + 4)).toArray) (some gn) := gb_trans (gb_trans HGR.out (gb_below hW.frame)) hg6
        refine wpOp_of_list rfl rfl ?_
        refine store_at (g := gn) (off := p * 4) (cs := #[.int .u64 (word (fAny [G, T]) 0), .int .u64 (word (fAny [G, T]) 1), .int .u64 (word (fAny [G, T]) 2), .int .u64 (word (fAny [G, T]) 3)]) (cur := cur) (t := 33) rfl (ty := 33) (x := .tmp 30) (y := .tmp 29) rfl h30 h29 hcur 4 (by kernel_rfl) rfl hroom (by kernel_rfl) ?_
        have hset : w1.setRow gn (cur.toList.take (p * 4) ++ (#[.int .u64 (word (fAny [G, T]) 0), .int .u64 (word (fAny [G, T]) 1), .int .u64 (word (fAny [G, T]) 2), .int .u64 (word (fAny [G, T]) 3)] : Array Value).toList ++ cur.toList.drop (p * 4 + 4)).toArray = w1.setRow gn (cur.toList.take (p * 4) ++ netC (fAny [G, T]) ++ cur.toList.drop (p * 4 + 4)).toArray := rfl
        rw [hset]
        clear hset
        generalize w1.setRow gn (cur.toList.take (p * 4) ++ netC (fAny [G, T]) ++ cur.toList.drop (p * 4 + 4)).toArray = w6 at *
        have HV6 := hidden hV6
        have HG6 := hidden hG6
        obtain ⟨tm, df⟩ := a1
        simp only at hsz hd h30 h29 h0 h1 h2 h3 h4 h5 h6 h8 h9 h10 h11
        have hz := arr32 hsz
        rw [h0, h1, h2, h3, h4, h5, h6, h8, h9, h10, h11] at hz
        clear hs hv hW hV6 hG6 hg6 hN6 hturn hcur hroom hsz h30 h29 h0 h1 h2 h3 h4 h5 h6 h8 h9 h10 h11
        generalize tm.getD 7 undef = u7 at hz
        generalize tm.getD 12 undef = u12 at hz
        generalize tm.getD 13 undef = u13 at hz
        generalize tm.getD 14 undef = u14 at hz
        generalize tm.getD 15 undef = u15 at hz
        generalize tm.getD 16 undef = u16 at hz
        generalize tm.getD 17 undef = u17 at hz
        generalize tm.getD 18 undef = u18 at hz
        generalize tm.getD 19 undef = u19 at hz
        generalize tm.getD 20 undef = u20 at hz
        generalize tm.getD 21 undef = u21 at hz
        generalize tm.getD 22 undef = u22 at hz
        generalize tm.getD 23 undef = u23 at hz
        generalize tm.getD 24 undef = u24 at hz
        generalize tm.getD 25 undef = u25 at hz
        generalize tm.getD 26 undef = u26 at hz
        generalize tm.getD 27 undef = u27 at hz
        generalize tm.getD 28 undef = u28 at hz
        generalize tm.getD 29 undef = u29 at hz
        generalize tm.getD 30 undef = u30 at hz
        generalize tm.getD 31 undef = u31 at hz
        subst hz hd
        go_wp2
        have hlt' := hlt
        go_roundw
        case rel => exact ⟨k + 1, by omega, by go_num, HV6.out, HG6.out⟩
        case measure => simp [intOf]; omega
      case step =>
        refine ⟨?_, ?_, ?_, ?_, ?_, ?_, ?_, ?_, ?_, ?_, ?_, ?_, ?_, ?_, ?_, ?_, trivial⟩
        · change StepOk _ _ _ _ _ _ _
          intro ρ w1 hF hW
          have HW := hidden hW
          clear hW
          have e0 : ρ 0 = .pointer (some ⟨NB, 0, none⟩) := hF 0 (by decide)
          clear hF
          unfold Does
          go_simp
          exact ⟨rfl, HW.out, Below.refl _ _⟩
        · change StepOk _ _ _ _ _ _ _
          intro ρ w1 hF hW
          have HW := hidden hW
          clear hW
          have e15 : ρ 15 = .pointer (some ⟨NB, 0, none⟩) := hF 15 (by decide)
          clear hF
          unfold Does
          go_simp
          exact ⟨rfl, HW.out, Below.refl _ _⟩
        · change StepOk _ _ _ _ _ _ _
          intro ρ w1 hF hW
          have HW := hidden hW
          clear hW
          have e16 : ρ 16 = .pointer (some ⟨NB, 0, none⟩) := hF 16 (by decide)
          clear hF
          unfold Does
          go_simp
          exact ⟨rfl, HW.out, Below.refl _ _⟩
        · change StepOk _ _ _ _ _ _ _
          intro ρ w1 hF hW
          have HW := hidden hW
          clear hW
          have e17 : ρ 17 = .pointer (some ⟨NB, 1, none⟩) := hF 17 (by decide)
          clear hF
          obtain ⟨⟨c0, c1⟩, ⟨d0, d1, d2, d3, _⟩, e0, e1, e2, e3⟩ := HW.out.cells
          unfold Does
          go_simp
          exact ⟨rfl, HW.out, Below.refl _ _⟩
        · change StepOk _ _ _ _ _ _ _
          intro ρ w1 hF hW
          have HW := hidden hW
          clear hW
          have e7 : ρ 7 = .int .u8 (p : Int) := hF 7 (by decide)
          clear hF
          unfold Does
          go_simp
          exact ⟨rfl, HW.out, Below.refl _ _⟩
        · change StepOk _ _ _ _ _ _ _
          intro ρ w1 hF hW
          have HW := hidden hW
          clear hW
          have e0 : ρ 0 = .pointer (some ⟨NB, 0, none⟩) := hF 0 (by decide)
          clear hF
          unfold Does
          go_simp
          exact ⟨rfl, HW.out, Below.refl _ _⟩
        · change StepOk _ _ _ _ _ _ _
          intro ρ w1 hF hW
          have HW := hidden hW
          clear hW
          have e20 : ρ 20 = .pointer (some ⟨NB, 0, none⟩) := hF 20 (by decide)
          clear hF
          unfold Does
          go_simp
          exact ⟨rfl, HW.out, Below.refl _ _⟩
        · change StepOk _ _ _ _ _ _ _
          intro ρ w1 hF hW
          have HW := hidden hW
          clear hW
          have e21 : ρ 21 = .pointer (some ⟨NB, 0, none⟩) := hF 21 (by decide)
          clear hF
          unfold Does
          go_simp
          exact ⟨rfl, HW.out, Below.refl _ _⟩
        · change StepOk _ _ _ _ _ _ _
          intro ρ w1 hF hW
          have HW := hidden hW
          clear hW
          have e22 : ρ 22 = .pointer (some ⟨NB, 1, none⟩) := hF 22 (by decide)
          clear hF
          obtain ⟨⟨c0, c1⟩, ⟨d0, d1, d2, d3, _⟩, e0, e1, e2, e3⟩ := HW.out.cells
          unfold Does
          go_simp
          exact ⟨rfl, HW.out, Below.refl _ _⟩
        · change StepOk _ _ _ _ _ _ _
          intro ρ w1 hF hW
          have HW := hidden hW
          clear hW
          have e7 : ρ 7 = .int .u8 (p : Int) := hF 7 (by decide)
          clear hF
          unfold Does
          go_simp
          exact ⟨rfl, HW.out, Below.refl _ _⟩
        · change StepOk _ _ _ _ _ _ _
          intro ρ w1 hF hW
          have HW := hidden hW
          clear hW
          have e23 : ρ 23 = .slice (some ⟨gn, 0, none⟩) m cn := hF 23 (by decide)
          have e24 : ρ 24 = .int .u8 (p : Int) := hF 24 (by decide)
          clear hF
          unfold Does
          go_simp
          exact ⟨rfl, HW.out, Below.refl _ _⟩
        · change StepOk _ _ _ _ _ _ _
          intro ρ w1 hF hW
          have HW := hidden hW
          clear hW
          have e25 : ρ 25 = .pointer (some ⟨gn, p * 4, none⟩) := hF 25 (by decide)
          clear hF
          obtain ⟨⟨c0, c1⟩, ⟨d0, d1, d2, d3, _⟩, e0, e1, e2, e3⟩ := HW.out.cells
          unfold Does
          go_simp
          exact ⟨rfl, HW.out, Below.refl _ _⟩
        · change StepOk _ _ _ _ _ _ _
          intro ρ w1 hF hW
          have HW := hidden hW
          clear hW
          have e5 : ρ 5 = .pointer (some ⟨w.heap.size + 1, 0, none⟩) := hF 5 (by decide)
          clear hF
          obtain ⟨⟨c0, c1⟩, ⟨d0, d1, d2, d3, _⟩, e0, e1, e2, e3⟩ := HW.out.cells
          unfold Does
          go_simp
          exact ⟨rfl, HW.out, Below.refl _ _⟩
        · change StepOk _ _ _ _ _ _ _
          intro ρ w1 hF hW
          have HW := hidden hW
          clear hW
          have e26 : ρ 26 = (.agg #[.int .u64 (word (G) 0), .int .u64 (word (G) 1), .int .u64 (word (G) 2), .int .u64 (word (G) 3)]) := hF 26 (by decide)
          have e27 : ρ 27 = (.agg #[.int .u64 (word (T) 0), .int .u64 (word (T) 1), .int .u64 (word (T) 2), .int .u64 (word (T) 3)]) := hF 27 (by decide)
          clear hF
          unfold Does
          go_simp
          exact ⟨⟨_, rfl, sets_two w1 _ _ _⟩, Wlk.below HW.out ((Below.refl _ _).alloc (Nat.le_refl _) _), (Below.refl _ _).alloc (Nat.le_refl _) _⟩
        · change StepOk _ _ _ _ _ _ _
          intro ρ w1 hF hW
          have HW := hidden hW
          clear hW
          obtain ⟨ad, e28, hs⟩ : ∃ ad, ρ 28 = .slice ad 2 2 ∧ Sets w1 ad 2 [G, T] := hF 28 (by decide)
          clear hF
          unfold Does
          go_simp
          refine (all_calls _ 2 2 [G, T] _ (by omega) hs).mono ?_
          rintro e w2 ⟨rfl, hb⟩
          exact ⟨_, rfl, rfl, Wlk.below HW.out hb, hb⟩
        · change StepOk _ _ _ _ _ _ _
          intro ρ w1 hF hW
          have HW := hidden hW
          clear hW
          have e18 : ρ 18 = .slice (some ⟨gn, 0, none⟩) m cn := hF 18 (by decide)
          have e19 : ρ 19 = .int .u8 (p : Int) := hF 19 (by decide)
          clear hF
          unfold Does
          go_simp
          exact ⟨rfl, HW.out, Below.refl _ _⟩
    · obtain rfl : k = n := by omega
      have HNT := hidden hnet
      have HGR := hidden hgr
      clear hnet hgr
      go_wp2
      refine bodyPost_end (results_none rfl _ _ _) rfl ?_
      refine ⟨rfl, NetAt.same ⟨vs, vn, HNT.out⟩ fun p hp q _ => ?_, ?_⟩
      · rw [HNE.out]
        exact HLA.out p (by omega) q
      · have h1 : Mv (fun _ => False) base w w2 := .of_below HB2.out
        rcases HVN.out with h | ⟨g0, e, h2, h3⟩
        · have h4 := HGR.out
          rw [h] at h4
          exact h1.trans (.grown0 h4)
        · have h4 := HGR.out
          rw [e] at h4
          refine ⟨h4.os.trans h1.os, h4.tape.trans h1.tape, h4.output.trans h1.output, Nat.le_trans h1.size h4.size, fun i hi hx hr => ?_⟩
          exact (h4.block i (Nat.lt_of_lt_of_le hi h1.size) (fun e2 => by cases e2; exact hr h3)).trans (h1.block i hi hx hr)
end Go.Proofs.YthkboclooplpeaaGreatDoor

/- net.set: one place more. -/
namespace Go.Proofs.YthkboclooplpeaaGreatDoor
open Go.RowKit Go.Lib Go.Joins
attribute [local go_sem] evalR_tmp evalR_const evalR_global evalR_func
theorem infoSet : (Tryz.prog.info? 33).map (fun i => (i.zero, i.size, i.bytes)) = some (some (.agg #[.int .u64 0, .int .u64 0, .int .u64 0, .int .u64 0]), 4, 32) := by kernel_rfl
theorem net_news {w : World} {f : Nat → Bool} {j : Nat} {u : Value} (hj : (netC f)[j]? = some u) : (w.alloc (.cells #[.int .u64 (word (f) 0), .int .u64 (word (f) 1), .int .u64 (word (f) 2), .int .u64 (word (f) 3)] 33)).cell? ((⟨w.heap.size, 0, none⟩ : Addr).add j) = some u := by
  rw [Addr.add_lit, World.cell?_alloc_at _ _ _ _ rfl]
  simpa [netC] using hj
theorem net_news_drew {w : World} {f : Nat → Bool} {j : Nat} {u : Value} (hj : (netC f)[j]? = some u) : ((w.alloc (.cells #[.int .u64 (word (f) 0), .int .u64 (word (f) 1), .int .u64 (word (f) 2), .int .u64 (word (f) 3)] 33)).drew).cell? ((⟨w.heap.size, 0, none⟩ : Addr).add j) = some u := net_news (w := w) hj
theorem net_one (f : Nat → Bool) : ∀ u ∈ netC f, u.oneCell' = true := fun u hu => by
  simp only [netC, List.mem_cons, List.not_mem_nil, or_false] at hu
  rcases hu with h | h | h | h <;> subst h <;> rfl
theorem own_slice {w : World} {base : Nat} {e : TypeId} {k n : Nat} {v : Value} {xs : List Value} (h : w.ownsRow base e k v n xs) : ∃ av c, v = .slice av n c := by
  rcases row_form h with ⟨rfl, h0⟩ | ⟨g0, c0, rfl, _⟩
  · exact ⟨none, 0, by rw [h0]⟩
  · exact ⟨_, _, rfl⟩
theorem own_some {w : World} {base : Nat} {e : TypeId} {k n : Nat} {v : Value} {xs : List Value} (h : w.ownsRow base e k v n xs) : v.ownBlock = none ∨ ∃ g, v.ownBlock = some g ∧ base ≤ g ∧ g < w.heap.size ∧ ∃ cs fr, w.heap[g]? = some (.cells cs e fr) := by
  rcases h.2 with ⟨rfl, _⟩ | ⟨g, cap, cur, rfl, hb, hg, _⟩
  · exact .inl rfl
  · exact .inr ⟨g, rfl, hb, (Array.getElem?_eq_some_iff.1 hg).1, cur, _, hg⟩
theorem Mv.row {X : Nat → Prop} {w w' : World} {base : Nat} {k n : Nat} {v : Value} {xs : List Value} (h : w.ownsRow base 33 k v n xs) (hg : w.grownBy w' v.ownBlock) : Mv X base w w' := by
  rcases own_some h with e | ⟨g, e, h1, _, h3⟩
  · rw [e] at hg; exact .grown0 hg
  · rw [e] at hg; exact .grown hg (.inr ⟨h1, h3⟩)
theorem own_ne {w : World} {base b : Nat} {e t : TypeId} {k n : Nat} {v : Value} {xs : List Value} {cs : Array Value} {fr : Nat × Nat} (h : w.ownsRow base e k v n xs) (hb : w.heap[b]? = some (.cells cs t fr)) (hne : t ≠ e) : v.ownBlock ≠ some b := fun hc => by
  rcases own_some h with e0 | ⟨g, e0, _, _, cs', fr', h3⟩
  · rw [e0] at hc; cases hc
  · rw [e0] at hc
    cases hc
    rw [h3] at hb
    simp only [Option.some.injEq, Obj.cells.injEq] at hb
    exact hne hb.2.1.symm
theorem own_lt {w : World} {base b : Nat} {e : TypeId} {k n : Nat} {v : Value} {xs : List Value} (h : w.ownsRow base e k v n xs) (hb : w.heap.size ≤ b) : v.ownBlock ≠ some b := fun hc => by
  have := (h.lt b hc).2
  omega
/-- a net whose two rows are of two lengths -/
structure NetW (w : World) (NB base : Nat) (vs : Value) (n1 : Nat) (vn : Value) (n2 : Nat) (S N : List Value) : Prop where
  obj : w.heap[NB]? = some (.cells #[vs, vn] 110 (0, 0))
  sets : w.ownsRow base 33 4 vs n1 S
  next : w.ownsRow base 33 4 vn n2 N
  apart : vs.ownBlock = none ∨ vs.ownBlock ≠ vn.ownBlock
section
variable {w w5 : World} {NB base n1 n2 n g5 cap5 : Nat} {vs vn : Value} {S N S' : List Value}
theorem NetW.below {w' : World} (h : NetW w NB base vs n1 vn n2 S N) (hb : Below w.heap.size w w') : NetW w' NB base vs n1 vn n2 S N :=
  ⟨(hb.block NB (Array.getElem?_eq_some_iff.1 h.obj).1).trans h.obj, row_below h.sets hb, row_below h.next hb, h.apart⟩
theorem NetW.lt (h : NetW w NB base vs n1 vn n2 S N) : NB < w.heap.size := (Array.getElem?_eq_some_iff.1 h.obj).1
theorem NetW.ne1 (h : NetW w NB base vs n1 vn n2 S N) : vs.ownBlock ≠ some NB := own_ne h.sets h.obj (by decide)
theorem NetW.ne2 (h : NetW w NB base vs n1 vn n2 S N) : vn.ownBlock ≠ some NB := own_ne h.next h.obj (by decide)
theorem kept_apart {u v : Value} {k : Nat} {xs : List Value} (h : w.ownsRow base 33 4 v k xs) (hg : w.grownBy w5 u.ownBlock) (ha : u.ownBlock = none ∨ v.ownBlock ≠ u.ownBlock) : w5.ownsRow base 33 4 v k xs := by
  rcases ha with e | e
  · rw [e] at hg; exact row_below h (grown_below hg)
  · exact h.kept hg (.inr e)
theorem NetW.grow1 (h : NetW w NB base vs n1 vn n2 S N) (ho : w5.ownsRow base 33 4 (.slice (some ⟨g5, 0, none⟩) n cap5) n S') (hg : w.grownBy w5 vs.ownBlock) (hl : vs.ownBlock = some g5 ∨ g5 = w.heap.size) :
    NetW (w5.setCell ⟨NB, 0, none⟩ (.slice (some ⟨g5, 0, none⟩) n cap5)) NB base (.slice (some ⟨g5, 0, none⟩) n cap5) n vn n2 S' N ∧ Mv (fun b => b = NB) base w (w5.setCell ⟨NB, 0, none⟩ (.slice (some ⟨g5, 0, none⟩) n cap5)) := by
  have hO : w5.heap[NB]? = some (.cells #[vs, vn] 110 (0, 0)) := (hg.block NB h.lt h.ne1.symm).trans h.obj
  have hN := kept_apart h.next hg (h.apart.imp id Ne.symm)
  refine ⟨⟨heap_setCell_same _ NB 0 _ _ _ hO, ho.kept (gb_set NB 0 _) (.inr (own_ne ho hO (by decide))), hN.kept (gb_set NB 0 _) (.inr (own_ne hN hO (by decide))), .inr fun e => ?_⟩, (Mv.row h.sets hg).trans (.grown (gb_set NB 0 _) (.inl rfl))⟩
  have e' : vn.ownBlock = some g5 := e.symm
  rcases hl with h1 | h1
  · rcases h.apart with h2 | h2
    · rw [h2] at h1; cases h1
    · exact h2 (h1.trans e'.symm)
  · exact own_lt h.next (Nat.le_of_eq h1.symm) e'
theorem NetW.grow2 (h : NetW w NB base vs n1 vn n2 S N) (ho : w5.ownsRow base 33 4 (.slice (some ⟨g5, 0, none⟩) n cap5) n S') (hg : w.grownBy w5 vn.ownBlock) (hl : vn.ownBlock = some g5 ∨ g5 = w.heap.size) :
    NetW (w5.setCell ⟨NB, 1, none⟩ (.slice (some ⟨g5, 0, none⟩) n cap5)) NB base vs n1 (.slice (some ⟨g5, 0, none⟩) n cap5) n S S' ∧ Mv (fun b => b = NB) base w (w5.setCell ⟨NB, 1, none⟩ (.slice (some ⟨g5, 0, none⟩) n cap5)) := by
  have hO : w5.heap[NB]? = some (.cells #[vs, vn] 110 (0, 0)) := (hg.block NB h.lt h.ne2.symm).trans h.obj
  have hS : w5.ownsRow base 33 4 vs n1 S := by
    rcases own_some h.next with e | ⟨g, e, _⟩
    · exact kept_apart h.sets hg (.inl e)
    · rcases own_some h.sets with e2 | ⟨g2, e2, _⟩
      · exact h.sets.kept hg (.inr (by rw [e, e2]; simp))
      · exact h.sets.kept hg (.inr (by rcases h.apart with h3 | h3; (rw [h3] at e2; cases e2); exact h3))
  refine ⟨⟨heap_setCell_same _ NB 1 _ _ _ hO, hS.kept (gb_set NB 1 _) (.inr (own_ne hS hO (by decide))), ho.kept (gb_set NB 1 _) (.inr (own_ne ho hO (by decide))), ?_⟩, (Mv.row h.next hg).trans (.grown (gb_set NB 1 _) (.inl rfl))⟩
  rcases own_some h.sets with e2 | ⟨g2, e2, _, hlt, _⟩
  · exact .inl e2
  · refine .inr fun e => ?_
    have e' : vs.ownBlock = some g5 := e
    rcases hl with h1 | h1
    · rcases h.apart with h2 | h2
      · rw [h2] at e2; cases e2
      · exact h2 (e'.trans h1.symm)
    · exact own_lt h.sets (Nat.le_of_eq h1.symm) e'
end
theorem zero_news {w : World} {j : Nat} {u : Value} (hj : ([.int .u64 0, .int .u64 0, .int .u64 0, .int .u64 0] : List Value)[j]? = some u) : (w.alloc (.cells #[.int .u64 0, .int .u64 0, .int .u64 0, .int .u64 0] 33)).cell? ((⟨w.heap.size, 0, none⟩ : Addr).add j) = some u := by
  rw [Addr.add_lit, World.cell?_alloc_at _ _ _ _ rfl]
  simpa using hj
theorem zero_one : ∀ u ∈ ([.int .u64 0, .int .u64 0, .int .u64 0, .int .u64 0] : List Value), u.oneCell' = true := fun u hu => by
  simp only [List.mem_cons, List.not_mem_nil, or_false] at hu
  rcases hu with h | h | h | h <;> subst h <;> rfl
theorem Mv.at {X : Nat → Prop} {base b : Nat} {w w' : World} {cs : Array Value} {t : TypeId} {fr : Nat × Nat} (h : Mv X base w w') (hb : w.heap[b]? = some (.cells cs t fr)) (hX : ¬ X b) (ht : t ≠ 33) : w'.heap[b]? = some (.cells cs t fr) := by
  refine (h.block b (Array.getElem?_eq_some_iff.1 hb).1 hX ?_).trans hb
  rintro ⟨_, cs', fr', e⟩
  rw [hb] at e
  simp only [Option.some.injEq, Obj.cells.injEq] at e
  exact ht e.2.1
/-- what stands in the first cell of the net -/
def nbVal (NB : Nat) (w : World) : Value := (w.cell? ⟨NB, 0, none⟩).getD undef
theorem nbVal_eq {NB : Nat} {w : World} {v : Value} (h : w.cell? ⟨NB, 0, none⟩ = some v) : nbVal NB w = v := by simp [nbVal, h]
/-- what the loads of the region read -/
def Held1 (NB b0 : Nat) (f : Nat → Bool) (w : World) : Prop := w.cell? ⟨NB, 0, none⟩ = some (nbVal NB w) ∧ w.cell? ⟨b0, 0, none⟩ = some (.int .u64 (word f 0)) ∧ w.cell? ⟨b0, 1, none⟩ = some (.int .u64 (word f 1)) ∧ w.cell? ⟨b0, 2, none⟩ = some (.int .u64 (word f 2)) ∧ w.cell? ⟨b0, 3, none⟩ = some (.int .u64 (word f 3))
theorem held1 {w : World} {NB b0 : Nat} {f : Nat → Bool} {v : Value} (h1 : w.cell? ⟨NB, 0, none⟩ = some v) (h2 : SetAt w b0 f) : Held1 NB b0 f w := by
  obtain ⟨d0, d1, d2, d3, _⟩ := h2.facts
  exact ⟨by rw [nbVal_eq h1]; exact h1, d0, d1, d2, d3⟩
set_option maxHeartbeats 8000000 in
set_option maxRecDepth 100000 in
theorem set_calls {w : World} {NB base : Nat} {S : List (Nat → Bool)} {E : Nat → Nat → Bool} (f : Nat → Bool) (h_ : NetAt w NB base S E) (hb0 : base ≤ w.heap.size) (hm_ : S.length < 256) (hE : ∀ q, q < 256 → E S.length q = false) :
    Calls Tryz.prog 99 #[.pointer (some ⟨NB, 0, none⟩), (.agg #[.int .u64 (word (f) 0), .int .u64 (word (f) 1), .int .u64 (word (f) 2), .int .u64 (word (f) 3)])] w fun e w' => e = .returned (rchV ⟨false, fOne S.length, fOne S.length⟩) ∧ NetAt w' NB base (S ++ [f]) E ∧ Mv (fun b => b = NB) base w w' := by
  obtain ⟨i0, hi, hz0, hz1, hz2⟩ := info_parts infoSet
  have HI := hidden hi
  have HZ := hidden (And.intro hz0 (And.intro hz1 hz2))
  have HE := hidden hE
  obtain ⟨vs, vn, hn⟩ := h_
  obtain ⟨m, hm⟩ : ∃ m, m = S.length := ⟨_, rfl⟩
  rw [← hm] at hn hm_
  have HM := hidden hm
  have hbox : SetAt (w.alloc (.cells #[.int .u64 (word (f) 0), .int .u64 (word (f) 1), .int .u64 (word (f) 2), .int .u64 (word (f) 3)] 33)) w.heap.size f := heap_alloc_new w _
  have hz := heap_alloc2_new w (.cells #[.int .u64 (word (f) 0), .int .u64 (word (f) 1), .int .u64 (word (f) 2), .int .u64 (word (f) 3)] 33) (.cells #[.bool false, .int .u64 0, .int .u64 0, .int .u64 0, .int .u64 0, .int .u64 0, .int .u64 0, .int .u64 0, .int .u64 0] 83)
  obtain ⟨av, c1, rfl⟩ := own_slice hn.sets
  have hba := ((Below.refl w.heap.size w).alloc (Nat.le_refl _) (.cells #[.int .u64 (word (f) 0), .int .u64 (word (f) 1), .int .u64 (word (f) 2), .int .u64 (word (f) 3)] 33)).alloc (by simp) (.cells #[.bool false, .int .u64 0, .int .u64 0, .int .u64 0, .int .u64 0, .int .u64 0, .int .u64 0, .int .u64 0, .int .u64 0] 83)
  have HN := hidden (hn.below hba)
  have HB0 := hidden (own_lt hn.sets (Nat.le_refl _))
  have HB9 := hidden (fun b (h : w.heap.size ≤ b) => own_lt hn.sets h)
  have HB8 := hidden (fun b (h : w.heap.size ≤ b) => own_lt hn.next h)
  have HBX := hidden (hbox.below ((Below.refl _ _).alloc (Nat.le_refl _) (.cells #[.bool false, .int .u64 0, .int .u64 0, .int .u64 0, .int .u64 0, .int .u64 0, .int .u64 0, .int .u64 0, .int .u64 0] 83)))
  have HT4 := hidden hz
  have HBA := hidden hba
  obtain ⟨k0, k1⟩ := (hn.below hba).cells
  have hlt := hn.lt
  have HONE := hidden (fun W => one_calls (m : Int) W (by omega) (by omega))
  have hcv : IntKind.u8.wrap (m : Int) = m := by rw [IntKind.wrap_u8]; omega
  rw [show S.length = m from hm.symm]
  generalize hvr : rchV ⟨false, fOne m, fOne m⟩ = vr
  have HVR := hidden hvr
  clear hn hbox hz hba hi hz0 hz1 hz2 hE hm hvr
  go_enter Tryz.func99, Tryz.ntmps99
  go_wp2_with fail
  refine (HONE.out _).mono ?_
  rintro e w1 ⟨rfl, hb1⟩
  have HN1 := hidden ((HN.out.below hb1).below ((Below.refl _ _).alloc (Nat.le_refl _) (.cells #[.int .u64 (word (fOne (m : Int).toNat) 0), .int .u64 (word (fOne (m : Int).toNat) 1), .int .u64 (word (fOne (m : Int).toNat) 2), .int .u64 (word (fOne (m : Int).toNat) 3)] 33)))
  have HBX1 := hidden ((HBX.out.below hb1).below ((Below.refl _ _).alloc (Nat.le_refl _) (.cells #[.int .u64 (word (fOne (m : Int).toNat) 0), .int .u64 (word (fOne (m : Int).toNat) 1), .int .u64 (word (fOne (m : Int).toNat) 2), .int .u64 (word (fOne (m : Int).toNat) 3)] 33)))
  have HT41 := hidden ((heap_alloc_old w1 (.cells #[.int .u64 (word (fOne (m : Int).toNat) 0), .int .u64 (word (fOne (m : Int).toNat) 1), .int .u64 (word (fOne (m : Int).toNat) 2), .int .u64 (word (fOne (m : Int).toNat) 3)] 33) (by have := hb1.size; simp at this; omega)).trans ((hb1.block (w.heap.size + 1) (by simp)).trans HT4.out))
  have HO1 := hidden (show SetAt (w1.alloc (.cells #[.int .u64 (word (fOne (m : Int).toNat) 0), .int .u64 (word (fOne (m : Int).toNat) 1), .int .u64 (word (fOne (m : Int).toNat) 2), .int .u64 (word (fOne (m : Int).toNat) 3)] 33)) w1.heap.size (fOne (m : Int).toNat) from heap_alloc_new w1 _)
  have HMV1 := hidden (show Mv (fun b => b = NB) base w (w1.alloc (.cells #[.int .u64 (word (fOne (m : Int).toNat) 0), .int .u64 (word (fOne (m : Int).toNat) 1), .int .u64 (word (fOne (m : Int).toNat) 2), .int .u64 (word (fOne (m : Int).toNat) 3)] 33)) from .of_below ((below_then HBA.out HBA.out.size hb1).alloc (by have := hb1.size; simp at this; omega) _))
  have hs1 : w.heap.size + 2 ≤ w1.heap.size := by have := hb1.size; simp at this; omega
  clear hb1
  generalize hO : fOne (m : Int).toNat = O at *
  have HOO := hidden hO
  clear hO
  go_wp2
  generalize hwa : w1.alloc (.cells #[.int .u64 (word (O) 0), .int .u64 (word (O) 1), .int .u64 (word (O) 2), .int .u64 (word (O) 3)] 33) = wa at *
  have HSA := hidden (show wa.heap.size = w1.heap.size + 1 by rw [← hwa]; simp)
  have HS5 := hidden (show w1.heap.size < wa.heap.size by have := HSA.out; omega)
  generalize w1.heap.size = b5 at *
  have HWA := hidden hwa
  have K3 := hidden (show m + 1 ≤ maxLen by unfold maxLen; omega)
  have K4 := hidden (show (m + 1) * 32 ≤ 140737488355328 by omega)
  have KB := hidden (id (show base ≤ (wa.alloc (.cells #[.int .u64 (word (f) 0), .int .u64 (word (f) 1), .int .u64 (word (f) 2), .int .u64 (word (f) 3)] 33)).heap.size by have := HSA.out; simp; omega) : base ≤ (wa.alloc (.cells #[.int .u64 (word (f) 0), .int .u64 (word (f) 1), .int .u64 (word (f) 2), .int .u64 (word (f) 3)] 33)).drew.heap.size)
  have hN2 := (HN1.out.below ((Below.refl _ _).alloc (Nat.le_refl _) (.cells #[.int .u64 (word (f) 0), .int .u64 (word (f) 1), .int .u64 (word (f) 2), .int .u64 (word (f) 3)] 33))).below (Below.refl _ _).drew
  have hX2 := (HBX1.out.below ((Below.refl _ _).alloc (Nat.le_refl _) (.cells #[.int .u64 (word (f) 0), .int .u64 (word (f) 1), .int .u64 (word (f) 2), .int .u64 (word (f) 3)] 33))).below (Below.refl _ _).drew
  have HN2 := hidden hN2
  have HX2 := hidden hX2
  have HNE := hidden (own_ne hN2.sets hN2.obj (by decide))
  have HLT := hidden (own_lt HN1.out.sets (Nat.le_refl _))
  have HNX := hidden (show w.heap.size ≠ NB by omega)
  have HNV := hidden (show nbVal NB wa.drew = .slice av m c1 from nbVal_eq HN1.out.cells.1)
  have HNR := hidden (show ((wa.alloc (.cells #[.int .u64 (word (f) 0), .int .u64 (word (f) 1), .int .u64 (word (f) 2), .int .u64 (word (f) 3)] 33)).drew).ownsRow base 33 4 (nbVal NB wa.drew) m (S.flatMap netC) by rw [HNV.out]; exact hN2.sets)
  have kz := HN1.out.cells.1
  have hNB := HN1.out.lt
  have HBB := hidden (show (Value.slice av m c1).ownBlock ≠ some w.heap.size from HB0.out)
  clear hwa hN2 hX2 k0 k1
  obtain ⟨x0, x1, x2, x3, _⟩ := HBX1.out.facts
  go_region_law (refine step_append_lies _ rfl _ _ 108 rfl base 33 i0 (.agg #[.int .u64 0, .int .u64 0, .int .u64 0, .int .u64 0]) 4 32 Tryz.underlying108 HI.out HZ.out.1 HZ.out.2.1 HZ.out.2.2 rfl (by decide) _ _ _ rfl HN2.out.sets ⟨wa.heap.size, 0, none⟩ 1 1 (netC f) rfl rfl (fun j u hj => net_news_drew hj) (net_one f) (by decide) K3.out K4.out KB.out _ rfl ?_; intro g5 cap5 w5 hown5 hgrow5 hlie5 hlt5; have hO5 := (hgrow5.block NB HN2.out.lt HNE.out.symm).trans HN2.out.obj; have z0 := cell_of_row w5 NB 0 _ _ _ hO5; have z1 := frozen_of_row w5 NB 0 _ _ hO5)
  all_goals
    have hgw := NetW.grow1 ⟨HN2.out.obj, HN2.out.sets, HN2.out.next, HN2.out.apart⟩ hown5 hgrow5 hlie5
    have ht6 := hgw.2.at ((heap_alloc_old wa (.cells #[.int .u64 (word (f) 0), .int .u64 (word (f) 1), .int .u64 (word (f) 2), .int .u64 (word (f) 3)] 33) (Array.getElem?_eq_some_iff.1 HT41.out).1).trans HT41.out) (show ¬ w.heap.size + 1 = NB by omega) (by decide)
    have hx6 : SetAt (w5.setCell ⟨NB, 0, none⟩ (.slice (some ⟨g5, 0, none⟩) (m + 1) cap5)) b5 O := SetAt.other ((hgrow5.block b5 (show b5 < (wa.alloc (.cells #[.int .u64 (word (f) 0), .int .u64 (word (f) 1), .int .u64 (word (f) 2), .int .u64 (word (f) 3)] 33)).heap.size by have := HS5.out; simp; omega) (HB9.out b5 (by omega)).symm).trans ((heap_alloc_old wa _ HS5.out).trans HO1.out)) (by omega) _
    have hsz6 := hgw.2.size
    have hs6 : base ≤ (w5.setCell ⟨NB, 0, none⟩ (.slice (some ⟨g5, 0, none⟩) (m + 1) cap5)).heap.size := Nat.le_trans KB.out hsz6
    have HMV6 := hidden (((HMV1.out.trans (Mv.alloc (.cells #[.int .u64 (word (f) 0), .int .u64 (word (f) 1), .int .u64 (word (f) 2), .int .u64 (word (f) 3)] 33))).trans Mv.drew).trans hgw.2)
    have HN6 := hidden (hgw.1.below ((Below.refl _ _).alloc (Nat.le_refl _) (.cells #[.int .u64 0, .int .u64 0, .int .u64 0, .int .u64 0] 33)))
    have k6 := cell_of_row _ NB 1 _ _ _ hgw.1.obj
    have hNB6 := hgw.1.lt
    have HT6 := hidden ht6
    have HX6 := hidden hx6
    have HS6 := hidden hs6
    have hb56 : b5 < (w5.setCell ⟨NB, 0, none⟩ (.slice (some ⟨g5, 0, none⟩) (m + 1) cap5)).heap.size := (Array.getElem?_eq_some_iff.1 hx6).1
    have hbNB : b5 ≠ NB := by omega
    clear hgw ht6 hx6 hsz6 hs6 hown5 hgrow5 hlie5 hlt5 z0 z1 hO5 kz x0 x1 x2 x3
    generalize w5.setCell ⟨NB, 0, none⟩ (.slice (some ⟨g5, 0, none⟩) (m + 1) cap5) = w6 at *
    obtain ⟨an, c2, rfl⟩ := own_slice HN6.out.next
    go_wp2_with (first
      | (at_builtin; refine wpList_append_lies _ rfl _ _ 108 rfl base 33 i0 (.agg #[.int .u64 0, .int .u64 0, .int .u64 0, .int .u64 0]) 4 32 Tryz.underlying108 HI.out HZ.out.1 HZ.out.2.1 HZ.out.2.2 rfl (by decide) _ _ _ rfl HN6.out.next ⟨w6.heap.size, 0, none⟩ 1 1 [.int .u64 0, .int .u64 0, .int .u64 0, .int .u64 0] rfl rfl (fun j u hj => zero_news hj) zero_one (by decide) K3.out K4.out (Nat.le_trans HS6.out (by simp)) _ rfl ?_;
         intro g7 cap7 w7 hown7 hgrow7 hlie7 hlt7;
         have hgw := NetW.grow2 HN6.out hown7 hgrow7 hlie7;
         have hO7 := (hgrow7.block NB HN6.out.lt HN6.out.ne2.symm).trans HN6.out.obj;
         have y0 := cell_of_row w7 NB 1 _ _ _ hO7;
         have y1 := frozen_of_row w7 NB 1 _ _ hO7;
         have hX7 : SetAt w7 b5 O := (hgrow7.block b5 (by simp; omega) (HB8.out b5 (by omega)).symm).trans ((heap_alloc_old w6 _ hb56).trans HX6.out);
         obtain ⟨o0, o1, o2, o3, _⟩ := hX7.facts;
         have HN8 := hidden hgw.1;
         have HMV8 := hidden ((HMV6.out.trans (Mv.alloc (.cells #[.int .u64 0, .int .u64 0, .int .u64 0, .int .u64 0] 33))).trans hgw.2);
         have HT8 := hidden (hgw.2.at ((heap_alloc_old w6 (.cells #[.int .u64 0, .int .u64 0, .int .u64 0, .int .u64 0] 33) (Array.getElem?_eq_some_iff.1 HT6.out).1).trans HT6.out) (show ¬ w.heap.size + 1 = NB by omega) (by decide));
         clear hgw hO7 hX7 hown7 hgrow7 hlie7)
      | (refine store_row (B := w.heap.size + 1) (cs := #[.bool false, .int .u64 (word (O) 0), .int .u64 (word (O) 1), .int .u64 (word (O) 2), .int .u64 (word (O) 3), .int .u64 (word (O) 0), .int .u64 (word (O) 1), .int .u64 (word (O) 2), .int .u64 (word (O) 3)]) (old := #[.bool false, .int .u64 0, .int .u64 0, .int .u64 0, .int .u64 0, .int .u64 0, .int .u64 0, .int .u64 0, .int .u64 0]) (t := 83) rfl (ty := 83) (x := .tmp 4) (y := .tmp 35) rfl rfl rfl HT8.out 9 (by kernel_rfl) rfl rfl (by kernel_rfl) ?_; intro w9 hw9 hg9; have HL9 := hidden hw9; have HG9 := hidden hg9; clear hw9 hg9))
    have hres := HN8.out
    have hg9 := HG9.out
    have hO8 := (hg9.block NB hres.lt (by simp; omega)).trans hres.obj
    have hS8 := hres.sets.kept hg9 (.inr (own_ne hres.sets HT8.out (by decide)))
    have hV8 := hres.next.kept hg9 (.inr (own_ne hres.next HT8.out (by decide)))
    have hl8 : (S ++ [f]).length = m + 1 := by rw [List.length_append, ← HM.out]; rfl
    have hE8 : ((List.range m).map E).flatMap netC ++ [.int .u64 0, .int .u64 0, .int .u64 0, .int .u64 0] = ((List.range (S ++ [f]).length).map E).flatMap netC := by
      rw [hl8, List.range_succ, List.map_append, List.flatMap_append]
      congr 1
      simp only [List.map_cons, List.map_nil, List.flatMap_cons, List.flatMap_nil, List.append_nil]
      rw [word_same (f := E m) (g := fNone) (fun q hq => by rw [HM.out]; exact HE.out q hq)]
      unfold netC
      simp only [word_zero]
    refine ret_rch (l := ⟨false, O, O⟩) Tryz.results99 rfl rfl HL9.out ⟨by rw [← HVR.out, ← HOO.out]; rfl, ⟨_, _, hO8, ?_, ?_, hres.apart⟩, HMV8.out.over (b := w.heap.size + 1) (by omega) hg9⟩
    · rw [hl8, List.flatMap_append, List.flatMap_cons, List.flatMap_nil, List.append_nil]
      exact hS8
    · rw [← hE8, hl8]
      exact hV8
end Go.Proofs.YthkboclooplpeaaGreatDoor
