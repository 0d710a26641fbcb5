/- FaRead, FaMat, put together. -/
import Derived.Test.YthkboclooplpeaaGreatDoorRf29
import Derived.Test.YthkboclooplpeaaGreatDoorRf14
/- net.read: the places behind a byte, and whether a word may end there. -/
namespace Go.Proofs.YthkboclooplpeaaGreatDoor
open Go.RowKit Go.Lib Go.Joins
attribute [local go_sem] evalR_tmp evalR_const evalR_global evalR_func
set_option maxRecDepth 100000 in
theorem arr49 {t : Array Value} (h : t.size = 49) : t = #[t.getD 0 undef, t.getD 1 undef, t.getD 2 undef, t.getD 3 undef, t.getD 4 undef, t.getD 5 undef, t.getD 6 undef, t.getD 7 undef, t.getD 8 undef, t.getD 9 undef, t.getD 10 undef, t.getD 11 undef, t.getD 12 undef, t.getD 13 undef, t.getD 14 undef, t.getD 15 undef, t.getD 16 undef, t.getD 17 undef, t.getD 18 undef, t.getD 19 undef, t.getD 20 undef, t.getD 21 undef, t.getD 22 undef, t.getD 23 undef, t.getD 24 undef, t.getD 25 undef, t.getD 26 undef, t.getD 27 undef, t.getD 28 undef, t.getD 29 undef, t.getD 30 undef, t.getD 31 undef, t.getD 32 undef, t.getD 33 undef, t.getD 34 undef, t.getD 35 undef, t.getD 36 undef, t.getD 37 undef, t.getD 38 undef, t.getD 39 undef, t.getD 40 undef, t.getD 41 undef, t.getD 42 undef, t.getD 43 undef, t.getD 44 undef, t.getD 45 undef, t.getD 46 undef, t.getD 47 undef, t.getD 48 undef] := by
  have e := arr_split t
  rw [h] at e
  refine e.trans ?_
  kernel_rfl
theorem ret_row_tmp {fn : Func} {R : Ending → World → Prop} {a : Act} {w : World} {B p u : Nat} {t ty : TypeId} {cs : Array Value} {d : TypeDesc} {v : Value} (hf : fn.results = #[.cell p ty, .tmp u]) (hp : a.tmps.getD p undef = .pointer (some ⟨B, 0, none⟩))
    (hv : a.tmps.getD u undef = v) (hd : a.defers = []) (hS : w.heap[B]? = some (.cells cs t (0, 0))) (hdd : aggD d = true) (hu : Tryz.prog.underlying ty = some d) (hi : (Tryz.prog.info? ty).map (·.size) = some cs.size)
    (hR : R (.returned (.tuple #[.agg cs, v])) w) : bodyPost Tryz.prog fn R .ret a w := by
  refine bodyPost_ret ?_ hd hR
  rw [results_cell_tmp hf, hp]
  simp only [asAddr, Sem.run_pure, Result.andThen]
  rw [run_loadVar_row w B t ty _ (0, 0) d hS hu (by unfold aggD at hdd; cases d <;> first | rfl | cases hdd) hi]
  simp only [hv]
/-- the places behind a byte, of the first k open ones -/
def aftK (S : List (Nat → Bool)) (E : Nat → Nat → Bool) (es : List Nat) (c k q : Nat) : Bool := (es.take k).any fun p => S.getD p fNone c && E p q
def endK (S : List (Nat → Bool)) (L : Nat → Bool) (es : List Nat) (c k : Nat) : Bool := (es.take k).any fun p => S.getD p fNone c && L p
theorem take_getD {es : List Nat} {k : Nat} (hk : k < es.length) : es.take (k + 1) = es.take k ++ [es.getD k 0] := by
  rw [List.take_add_one, List.getD_eq_getElem?_getD, List.getElem?_eq_getElem hk]
  rfl
theorem aftK_next (S : List (Nat → Bool)) (E : Nat → Nat → Bool) {es : List Nat} (c : Nat) {k : Nat} (hk : k < es.length) (h : S.getD (es.getD k 0) fNone c = true) : fAny [aftK S E es c k, E (es.getD k 0)] = aftK S E es c (k + 1) := by
  funext q
  simp only [aftK, take_getD hk, List.any_append, List.any_cons, List.any_nil, fAny, Bool.or_false, h, Bool.true_and]
theorem aftK_skip (S : List (Nat → Bool)) (E : Nat → Nat → Bool) {es : List Nat} (c : Nat) {k : Nat} (hk : k < es.length) (h : S.getD (es.getD k 0) fNone c = false) : aftK S E es c k = aftK S E es c (k + 1) := by
  funext q
  simp only [aftK, take_getD hk, List.any_append, List.any_cons, List.any_nil, Bool.or_false, h, Bool.false_and]
theorem endK_next (S : List (Nat → Bool)) (L : Nat → Bool) {es : List Nat} (c : Nat) {k : Nat} (hk : k < es.length) (h : S.getD (es.getD k 0) fNone c = true) : (endK S L es c k || L (es.getD k 0)) = endK S L es c (k + 1) := by
  simp only [endK, take_getD hk, List.any_append, List.any_cons, List.any_nil, Bool.or_false, h, Bool.true_and]
theorem endK_skip (S : List (Nat → Bool)) (L : Nat → Bool) {es : List Nat} (c : Nat) {k : Nat} (hk : k < es.length) (h : S.getD (es.getD k 0) fNone c = false) : endK S L es c k = endK S L es c (k + 1) := by
  simp only [endK, take_getD hk, List.any_append, List.any_cons, List.any_nil, Bool.or_false, h, Bool.false_and]
/-- what stays while the places behind one are added -/
structure Wrd (NB base w0 gn cn m p : Nat) (vs : Value) (S N : List Value) (A G : Nat → Bool) (wr w : World) : Prop where
  net : NetV w NB base vs (.slice (some ⟨gn, 0, none⟩) m cn) m S N
  to : SetAt w (w0 + 3) A
  cell : ∀ j, j < 4 → w.cell? ⟨gn, p * 4 + j, none⟩ = some (.int .u64 (word G j))
  frame : Below wr.heap.size wr w
theorem Wrd.below {NB base w0 gn cn m p : Nat} {vs : Value} {S N : List Value} {A G : Nat → Bool} {wr w w' : World} (h : Wrd NB base w0 gn cn m p vs S N A G wr w) (hb : Below w.heap.size w w') : Wrd NB base w0 gn cn m p vs S N A G wr w' :=
  ⟨h.net.below hb, h.to.below hb, fun j hj => (hb.cell (p := ⟨gn, p * 4 + j, none⟩) (cell_lt (h.cell j hj))).trans (h.cell j hj), below_then h.frame h.frame.size hb⟩
theorem Wrd.cells {NB base w0 gn cn m p : Nat} {vs : Value} {S N : List Value} {A G : Nat → Bool} {wr w : World} (h : Wrd NB base w0 gn cn m p vs S N A G wr w) :
    (w.cell? ⟨NB, 0, none⟩ = some vs ∧ w.cell? ⟨NB, 1, none⟩ = some (.slice (some ⟨gn, 0, none⟩) m cn)) ∧ (w.cell? ⟨w0 + 3, 0, none⟩ = some (.int .u64 (word A 0)) ∧ w.cell? ⟨w0 + 3, 1, none⟩ = some (.int .u64 (word A 1)) ∧ w.cell? ⟨w0 + 3, 2, none⟩ = some (.int .u64 (word A 2)) ∧ w.cell? ⟨w0 + 3, 3, none⟩ = some (.int .u64 (word A 3)) ∧ True) ∧ w.cell? ⟨gn, p * 4, none⟩ = some (.int .u64 (word G 0)) ∧ w.cell? ⟨gn, p * 4 + 1, none⟩ = some (.int .u64 (word G 1)) ∧ w.cell? ⟨gn, p * 4 + 2, none⟩ = some (.int .u64 (word G 2)) ∧ w.cell? ⟨gn, p * 4 + 3, none⟩ = some (.int .u64 (word G 3)) := by
  obtain ⟨d0, d1, d2, d3, _⟩ := h.to.facts
  exact ⟨h.net.cells, ⟨d0, d1, d2, d3, trivial⟩, h.cell 0 (by omega), h.cell 1 (by omega), h.cell 2 (by omega), h.cell 3 (by omega)⟩
def Lrd (NB gn cn m p : Nat) (A G : Nat → Bool) : List (Value → World → Prop) := [
  Is (.agg #[.int .u64 (word (A) 0), .int .u64 (word (A) 1), .int .u64 (word (A) 2), .int .u64 (word (A) 3)]), Is (.pointer (some ⟨NB, 0, none⟩)), Is (.pointer (some ⟨NB, 0, none⟩)), Is (.pointer (some ⟨NB, 1, none⟩)), Is (.slice (some ⟨gn, 0, none⟩) m cn), Is (.int .u8 (p : Int)), Is (.pointer (some ⟨gn, p * 4, none⟩)), Is (.agg #[.int .u64 (word (G) 0), .int .u64 (word (G) 1), .int .u64 (word (G) 2), .int .u64 (word (G) 3)]), fun v w => ∃ ad, v = .slice ad 2 2 ∧ Sets w ad 2 [A, G], Is (.agg #[.int .u64 (word (fAny [A, G]) 0), .int .u64 (word (fAny [A, G]) 1), .int .u64 (word (fAny [A, G]) 2), .int .u64 (word (fAny [A, G]) 3)])]
theorem Lrd.mono (NB gn cn m p : Nat) (A G : Nat → Bool) : ∀ P ∈ Lrd NB gn cn m p A G, ∀ v w w', P v w → Below w.heap.size w w' → P v w' := by
  simp only [Lrd, List.forall_mem_cons]
  repeat' (first | exact is_mono _ | (intro p hp; cases hp; done) | exact (fun v w w' h _ => h) | refine And.intro ?_ ?_)
  all_goals
    rintro v w w' ⟨ad, rfl, h⟩ hb
    exact ⟨ad, rfl, sets_mono h hb⟩
set_option maxHeartbeats 8000000 in
set_option maxRecDepth 100000 in
theorem read_calls {w : World} {NB base : Nat} {S : List (Nat → Bool)} {E : Nat → Nat → Bool} (O L : Nat → Bool) (c : Nat) (hc : c < 256) (h_ : NetAt w NB base S E) (ht : Tab w) (hO : ∀ p, p < 256 → O p = true → p < S.length) :
    Calls Tryz.prog 72 #[.pointer (some ⟨NB, 0, none⟩), (.agg #[.int .u64 (word (O) 0), .int .u64 (word (O) 1), .int .u64 (word (O) 2), .int .u64 (word (O) 3)]), (.agg #[.int .u64 (word (L) 0), .int .u64 (word (L) 1), .int .u64 (word (L) 2), .int .u64 (word (L) 3)]), .int .u8 (c : Int)] w fun e w' => e = .returned (.tuple #[(.agg #[.int .u64 (word (aftK S E (elems O) c (elems O).length) 0), .int .u64 (word (aftK S E (elems O) c (elems O).length) 1), .int .u64 (word (aftK S E (elems O) c (elems O).length) 2), .int .u64 (word (aftK S E (elems O) c (elems O).length) 3)]), .bool (endK S L (elems O) c (elems O).length)]) ∧ Below w.heap.size w w' := by
  obtain ⟨vs, vn, hn⟩ := h_
  have hel : ∀ k, k < (elems O).length → (elems O).getD k 0 < S.length ∧ (elems O).getD k 0 < 256 := fun k hk => by
    have := List.getElem_mem hk
    rw [List.getD_eq_getElem?_getD, List.getElem?_eq_getElem hk]
    simp only [elems, List.mem_filter, List.mem_range] at this
    exact ⟨hO _ this.1 this.2, this.1⟩
  obtain ⟨W, hW⟩ : ∃ W, W = ((((w.alloc (.cells #[.int .u64 (word (O) 0), .int .u64 (word (O) 1), .int .u64 (word (O) 2), .int .u64 (word (O) 3)] 33)).alloc (.cells #[.int .u64 (word (L) 0), .int .u64 (word (L) 1), .int .u64 (word (L) 2), .int .u64 (word (L) 3)] 33)).alloc (.cells #[.int .u64 0, .int .u64 0, .int .u64 0, .int .u64 0] 33)).alloc (.cells #[.int .u64 0, .int .u64 0, .int .u64 0, .int .u64 0] 33)) := ⟨_, rfl⟩
  have hba : Below w.heap.size w W := by rw [hW]; exact ((((Below.refl w.heap.size w).alloc (Nat.le_refl _) _).alloc (by simp) _).alloc (by simp; omega) _).alloc (by simp; omega) _
  have hWs : W.heap.size = w.heap.size + 4 := by rw [hW]; simp
  have hb1 : SetAt W (w.heap.size + 1) L := by rw [hW]; exact (heap_alloc_old _ _ (by simp)).trans ((heap_alloc_old _ _ (by simp)).trans (heap_alloc2_new w (.cells #[.int .u64 (word (O) 0), .int .u64 (word (O) 1), .int .u64 (word (O) 2), .int .u64 (word (O) 3)] 33) (.cells #[.int .u64 (word (L) 0), .int .u64 (word (L) 1), .int .u64 (word (L) 2), .int .u64 (word (L) 3)] 33)))
  have hb2 : W.heap[w.heap.size + 2]? = some (.cells #[.int .u64 0, .int .u64 0, .int .u64 0, .int .u64 0] 33) := by
    rw [hW]
    have h := heap_alloc2_new (w.alloc (.cells #[.int .u64 (word (O) 0), .int .u64 (word (O) 1), .int .u64 (word (O) 2), .int .u64 (word (O) 3)] 33)) (.cells #[.int .u64 (word (L) 0), .int .u64 (word (L) 1), .int .u64 (word (L) 2), .int .u64 (word (L) 3)] 33) (.cells #[.int .u64 0, .int .u64 0, .int .u64 0, .int .u64 0] 33)
    rw [show (w.alloc (.cells #[.int .u64 (word (O) 0), .int .u64 (word (O) 1), .int .u64 (word (O) 2), .int .u64 (word (O) 3)] 33)).heap.size = w.heap.size + 1 by simp] at h
    exact (heap_alloc_old _ _ (by simp)).trans h
  have hb3 : SetAt W (w.heap.size + 3) fNone := by
    rw [hW]
    have h := heap_alloc2_new ((w.alloc (.cells #[.int .u64 (word (O) 0), .int .u64 (word (O) 1), .int .u64 (word (O) 2), .int .u64 (word (O) 3)] 33)).alloc (.cells #[.int .u64 (word (L) 0), .int .u64 (word (L) 1), .int .u64 (word (L) 2), .int .u64 (word (L) 3)] 33)) (.cells #[.int .u64 0, .int .u64 0, .int .u64 0, .int .u64 0] 33) (.cells #[.int .u64 0, .int .u64 0, .int .u64 0, .int .u64 0] 33)
    rw [show ((w.alloc (.cells #[.int .u64 (word (O) 0), .int .u64 (word (O) 1), .int .u64 (word (O) 2), .int .u64 (word (O) 3)] 33)).alloc (.cells #[.int .u64 (word (L) 0), .int .u64 (word (L) 1), .int .u64 (word (L) 2), .int .u64 (word (L) 3)] 33)).heap.size = w.heap.size + 2 by simp] at h
    unfold SetAt
    simp only [word_zero]
    exact h
  have HBY := hidden (bytes_calls O W (ht.below hba))
  have HN := hidden (hn.below hba)
  have HOS := hidden (own_lt hn.sets (show w.heap.size ≤ w.heap.size + 3 by omega))
  have HOV := hidden (own_lt hn.next (show w.heap.size ≤ w.heap.size + 3 by omega))
  have hnlt := hn.lt
  have HB := hidden hba
  have HB1 := hidden hb1
  have HB2 := hidden hb2
  have HB3 := hidden hb3
  have HEL := hidden hel
  have HWD := hidden hW
  rw [hW] at HBY
  have hel2 := elems_le O
  obtain ⟨n, hn0⟩ : ∃ n, n = (elems O).length := ⟨_, rfl⟩
  rw [← hn0] at HEL hel2 ⊢
  have HNE := hidden hn0
  clear hW hba hb1 hb2 hb3 hn hel hn0 ht
  go_enter Tryz.func72, Tryz.ntmps72
  go_wp2_with fail
  refine HBY.out.mono ?_
  rintro e w2 ⟨v, rfl, hrow, hbb⟩
  rw [← HWD.out] at hbb
  rw [← HNE.out] at hrow
  have HN2 := hidden (HN.out.below hbb)
  have HB12 := hidden (HB1.out.below hbb)
  have HB22 := hidden ((hbb.block _ (by rw [hWs]; omega)).trans HB2.out)
  have HB32 := hidden (HB3.out.below hbb)
  have HBB := hidden (below_then HB.out HB.out.size hbb)
  have hs2 : w.heap.size + 4 ≤ w2.heap.size := by have := hbb.size; omega
  obtain ⟨av, cb, rfl, hform⟩ : ∃ av cb, v = .slice av n cb ∧ ((av = none ∧ n = 0) ∨ ∃ gb, av = some ⟨gb, 0, none⟩ ∧ w.heap.size + 4 ≤ gb) := by
    rcases row_form hrow with ⟨rfl, h0⟩ | ⟨g0, c0, rfl, h1, _⟩
    · exact ⟨none, 0, by rw [h0], .inl ⟨rfl, h0⟩⟩
    · exact ⟨_, _, rfl, .inr ⟨g0, rfl, by simp at h1; omega⟩⟩
  have HROW := hidden hrow
  have HFM := hidden hform
  have HRWL := hidden (fun g (h : (Value.slice av n cb).ownBlock = some g) => (hrow.lt g h).2)
  have HNL := hidden hnlt
  clear hbb hrow hform hWs
  go_wp2
  go_loopw [11, 17] (fun b i wr => ∃ k : Nat, k ≤ n ∧ i = .int .i64 k ∧ b = .bool (endK S L (elems O) c k) ∧ SetAt wr (w.heap.size + 3) (aftK S E (elems O) c k) ∧ w2.grownBy wr (some (w.heap.size + 3))) (fun _ i _ => n - (intOf i).toNat)
  case atStart => exact ⟨0, by omega, rfl, by simp [endK], by rw [show aftK S E (elems O) c 0 = fNone from by funext q; simp [aftK, fNone]]; exact HB32.out, ⟨rfl, rfl, rfl, Nat.le_refl _, fun _ _ _ => rfl⟩⟩
  case round =>
    obtain ⟨k, hk, rfl, rfl, haft, hgr⟩ := hrel
    by_cases hlt : k < n
    · obtain ⟨hp, hp2⟩ := HEL.out k hlt
      have hlen : k < (elems O).length := by rw [← HNE.out]; exact hlt
      have hpv : ((elems O).map byteV)[k]? = some (.int .u8 ((elems O).getD k 0 : Nat)) := by
        rw [List.getElem?_map, List.getElem?_eq_getElem hlen, List.getD_eq_getElem?_getD, List.getElem?_eq_getElem hlen]
        rfl
      have hmore := hidden (fun h => And.intro (aftK_next S E c hlen h) (endK_next S L c hlen h))
      have hskip := hidden (fun h => And.intro (aftK_skip S E c hlen h) (endK_skip S L c hlen h))
      generalize (elems O).getD k 0 = p at *
      have hnet := HN2.out.grown hgr (by have := HNL.out; omega) (HOS.out) (HOV.out)
      rcases hnet.next.2 with ⟨_, h0⟩ | ⟨gn, cn, cur0, rfl, hbn, hgn, hmc, _⟩
      · omega
      rcases hnet.sets.2 with ⟨_, h0⟩ | ⟨gs, cs, cur1, rfl, hbs, hgs, hmc1, _⟩
      · omega
      rcases HFM.out with ⟨_, h0⟩ | ⟨gb, rfl, hgb⟩
      · omega
      have hrw := HROW.out.kept hgr (.inr (by simp [Value.ownBlock]; omega))
      have cby := World.ownsRow.cellAt hrw k (by omega)
      rw [hpv] at cby
      have hLr : SetAt wr (w.heap.size + 1) L := (hgr.block _ (by omega) (by simp)).trans HB12.out
      have hcS : ∀ j, j < 4 → wr.cell? ⟨gs, p * 4 + j, none⟩ = some (.int .u64 (word (S.getD p fNone) j)) := fun j hj => by
        rw [World.ownsRow.cellAt hnet.sets (p * 4 + j) (by omega), flat_cell S p hp j hj]
      have hcN : ∀ j, j < 4 → wr.cell? ⟨gn, p * 4 + j, none⟩ = some (.int .u64 (word (E p) j)) := fun j hj => by
        rw [World.ownsRow.cellAt hnet.next (p * 4 + j) (by omega), flat_cell _ p (by simpa using hp) j hj]
        simp [List.getD_eq_getElem?_getD, hp]
      have s0 := hcS 0 (by omega)
      rw [Nat.add_zero] at s0
      have s1 := hcS 1 (by omega)
      have s2 := hcS 2 (by omega)
      have s3 := hcS 3 (by omega)
      obtain ⟨n0, n1⟩ := hnet.cells
      have HCN := hidden hcN
      have HNT := hidden hnet
      have HAF := hidden haft
      have HGR := hidden hgr
      have HLR := hidden hLr
      have hwS := HNL.out
      generalize S.getD p fNone = G0 at *
      generalize E p = G at *
      generalize aftK S E (elems O) c k = A at *
      generalize endK S L (elems O) c k = eb at *
      generalize hme : S.length = m at *
      have HM := hidden hme
      have b1 : decide ((p : Int) < 0) = false := decide_eq_false (by omega)
      have b2 : decide ((m : Int) ≤ p) = false := decide_eq_false (by omega)
      have b3 : ((p : Int) < m) := by omega
      clear hpv hnet hgr hrw hLr hcS hcN hmc hmc1 hgn hgs hme haft
      go_wp2_with fail
      refine (has_calls G0 (c : Int) _ (by omega) (by omega)).mono ?_
      rintro e w3 ⟨rfl, hb3⟩
      rw [Int.toNat_natCast]
      have HB3w := hidden hb3
      clear s0 s1 s2 s3 n0 n1 cby
      cases hG : G0 c with
      | true =>
        obtain ⟨hA1, hE1⟩ := hmore.out hG
        have HA1 := hidden hA1
        have HE1 := hidden hE1
        have HWK := hidden (show Wrd NB base w.heap.size gn cn m p (.slice (some ⟨gs, 0, none⟩) m cs) (S.flatMap netC) (((List.range m).map E).flatMap netC) A G w3 w3.drew from ⟨(HNT.out.below hb3).below (Below.refl _ _).drew, (HAF.out.below hb3).below (Below.refl _ _).drew, fun j hj => (hb3.cell (p := ⟨gn, p * 4 + j, none⟩) (cell_lt (HCN.out j hj))).trans (HCN.out j hj), (Below.refl _ _).drew⟩)
        clear hb3 hA1 hE1 hG hmore hskip
        go_wp2
        refine wp_region_stepsL 10 (typ (Lrd NB gn cn m p A G)) (Wrd NB base w.heap.size gn cn m p (.slice (some ⟨gs, 0, none⟩) m cs) (S.flatMap netC) (((List.range m).map E).flatMap netC) A G w3) (by kernel_rfl) (by kernel_rfl) (by kernel_rfl) (by kernel_rfl) (by kernel_rfl) (by kernel_rfl) (typ_mono (Lrd.mono NB gn cn m p A G)) HWK.out ?step ?last
        case last =>
          intro a1 w1 hs hv hW
          have h39 : a1.tmps.getD 39 undef = (.agg #[.int .u64 (word (fAny [A, G]) 0), .int .u64 (word (fAny [A, G]) 1), .int .u64 (word (fAny [A, G]) 2), .int .u64 (word (fAny [A, G]) 3)]) := hv 9 39 (by decide) (by kernel_rfl)
          have h0 : a1.tmps.getD 0 undef = .pointer (some ⟨NB, 0, none⟩) := hs.slot 0 (by kernel_rfl)
          have h1 : a1.tmps.getD 1 undef = (.agg #[.int .u64 (word (O) 0), .int .u64 (word (O) 1), .int .u64 (word (O) 2), .int .u64 (word (O) 3)]) := hs.slot 1 (by kernel_rfl)
          have h2 : a1.tmps.getD 2 undef = (.agg #[.int .u64 (word (L) 0), .int .u64 (word (L) 1), .int .u64 (word (L) 2), .int .u64 (word (L) 3)]) := hs.slot 2 (by kernel_rfl)
          have h3 : a1.tmps.getD 3 undef = .int .u8 (c : Int) := hs.slot 3 (by kernel_rfl)
          have h4 : a1.tmps.getD 4 undef = undef := hs.slot 4 (by kernel_rfl)
          have h5 : a1.tmps.getD 5 undef = .pointer (some ⟨w.heap.size, 0, none⟩) := hs.slot 5 (by kernel_rfl)
          have h6 : a1.tmps.getD 6 undef = .pointer (some ⟨w.heap.size + 1, 0, none⟩) := hs.slot 6 (by kernel_rfl)
          have h7 : a1.tmps.getD 7 undef = undef := hs.slot 7 (by kernel_rfl)
          have h8 : a1.tmps.getD 8 undef = .pointer (some ⟨w.heap.size + 1 + 1, 0, none⟩) := hs.slot 8 (by kernel_rfl)
          have h9 : a1.tmps.getD 9 undef = .bool false := hs.slot 9 (by kernel_rfl)
          have h10 : a1.tmps.getD 10 undef = .pointer (some ⟨w.heap.size + 1 + 1 + 1, 0, none⟩) := hs.slot 10 (by kernel_rfl)
          have h11 : a1.tmps.getD 11 undef = .bool eb := hs.slot 11 (by kernel_rfl)
          have h12 : a1.tmps.getD 12 undef = undef := hs.slot 12 (by kernel_rfl)
          have h13 : a1.tmps.getD 13 undef = .int .u8 (p : Int) := hs.slot 13 (by kernel_rfl)
          have h14 : a1.tmps.getD 14 undef = (.agg #[.int .u64 (word (O) 0), .int .u64 (word (O) 1), .int .u64 (word (O) 2), .int .u64 (word (O) 3)]) := hs.slot 14 (by kernel_rfl)
          have h15 : a1.tmps.getD 15 undef = .slice (some ⟨gb, 0, none⟩) n cb := hs.slot 15 (by kernel_rfl)
          have h16 : a1.tmps.getD 16 undef = .int .i64 (n : Int) := hs.slot 16 (by kernel_rfl)
          have h17 : a1.tmps.getD 17 undef = .int .i64 (k : Int) := hs.slot 17 (by kernel_rfl)
          have h47 : a1.tmps.getD 47 undef = undef := hs.slot 47 (by kernel_rfl)
          have h48 : a1.tmps.getD 48 undef = undef := hs.slot 48 (by kernel_rfl)
          have hd : a1.defers = [] := hs.defers
          have hsz : a1.tmps.size = 49 := hs.size
          have HW := hidden hW
          refine wpOp_of_list rfl rfl ?_
          refine store_row (B := w.heap.size + 3) (cs := #[.int .u64 (word (fAny [A, G]) 0), .int .u64 (word (fAny [A, G]) 1), .int .u64 (word (fAny [A, G]) 2), .int .u64 (word (fAny [A, G]) 3)]) (old := #[.int .u64 (word (A) 0), .int .u64 (word (A) 1), .int .u64 (word (A) 2), .int .u64 (word (A) 3)]) (t := 33) rfl (ty := 33) (x := .tmp 10) (y := .tmp 39) rfl h10 h39 HW.out.to 4 (by kernel_rfl) rfl rfl (by kernel_rfl) ?_
          intro w6 hw6 hg6
          have hgr6 : w2.grownBy w6 (some (w.heap.size + 3)) := gb_trans (gb_trans HGR.out (gb_below HB3w.out)) (gb_trans (gb_below HW.out.frame) hg6)
          have hL6 : SetAt w6 (w.heap.size + 1) L := (hgr6.block _ (by omega) (by simp)).trans HB12.out
          have HAF6 := hidden (show SetAt w6 (w.heap.size + 3) (fAny [A, G]) from hw6)
          have HGR6 := hidden hgr6
          obtain ⟨l0, l1, l2, l3, _⟩ := hL6.facts
          obtain ⟨tm, df⟩ := a1
          simp only at hsz hd h39 h0 h1 h2 h3 h4 h5 h6 h7 h8 h9 h10 h11 h12 h13 h14 h15 h16 h17 h47 h48
          have hz := arr49 hsz
          rw [h0, h1, h2, h3, h4, h5, h6, h7, h8, h9, h10, h11, h12, h13, h14, h15, h16, h17, h47, h48] at hz
          clear hs hv hW hw6 hg6 hgr6 hL6 hsz h39 h0 h1 h2 h3 h4 h5 h6 h7 h8 h9 h10 h11 h12 h13 h14 h15 h16 h17 h47 h48
          generalize tm.getD 18 undef = u18 at hz
          generalize tm.getD 19 undef = u19 at hz
          generalize tm.getD 20 undef = u20 at hz
          generalize tm.getD 21 undef = u21 at hz
          generalize tm.getD 22 undef = u22 at hz
          generalize tm.getD 23 undef = u23 at hz
          generalize tm.getD 24 undef = u24 at hz
          generalize tm.getD 25 undef = u25 at hz
          generalize tm.getD 26 undef = u26 at hz
          generalize tm.getD 27 undef = u27 at hz
          generalize tm.getD 28 undef = u28 at hz
          generalize tm.getD 29 undef = u29 at hz
          generalize tm.getD 30 undef = u30 at hz
          generalize tm.getD 31 undef = u31 at hz
          generalize tm.getD 32 undef = u32 at hz
          generalize tm.getD 33 undef = u33 at hz
          generalize tm.getD 34 undef = u34 at hz
          generalize tm.getD 35 undef = u35 at hz
          generalize tm.getD 36 undef = u36 at hz
          generalize tm.getD 37 undef = u37 at hz
          generalize tm.getD 38 undef = u38 at hz
          generalize tm.getD 39 undef = u39 at hz
          generalize tm.getD 40 undef = u40 at hz
          generalize tm.getD 41 undef = u41 at hz
          generalize tm.getD 42 undef = u42 at hz
          generalize tm.getD 43 undef = u43 at hz
          generalize tm.getD 44 undef = u44 at hz
          generalize tm.getD 45 undef = u45 at hz
          generalize tm.getD 46 undef = u46 at hz
          subst hz hd
          cases heb : eb with
          | true =>
            have HEB := hidden heb
            clear heb
            go_wp2
            have hlt' := hlt
            go_roundw
            case rel => exact ⟨k + 1, by omega, by go_num, by rw [← HE1.out, HEB.out]; rfl, by rw [← HA1.out]; exact HAF6.out, HGR6.out⟩
            case measure => simp [intOf]; omega
          | false =>
            have HEB := hidden heb
            clear heb
            go_wp2_with fail
            refine (has_calls L (p : Int) _ (by omega) (by omega)).mono ?_
            rintro e w7 ⟨rfl, hb7⟩
            rw [Int.toNat_natCast]
            have HAF7 := hidden (HAF6.out.below hb7)
            have HGR7 := hidden (gb_trans HGR6.out (gb_below hb7))
            clear hb7
            go_wp2
            have hlt' := hlt
            go_roundw
            case rel => exact ⟨k + 1, by omega, by go_num, by rw [← HE1.out, HEB.out]; rfl, by rw [← HA1.out]; exact HAF7.out, HGR7.out⟩
            case measure => simp [intOf]; omega
        case step =>
          refine ⟨?_, ?_, ?_, ?_, ?_, ?_, ?_, ?_, ?_, ?_, trivial⟩
          · change StepOk _ _ _ _ _ _ _
            intro ρ w1 hF hW
            have HW := hidden hW
            clear hW
            have e10 : ρ 10 = .pointer (some ⟨w.heap.size + 3, 0, none⟩) := hF 10 (by decide)
            clear hF
            obtain ⟨⟨c0, c1⟩, ⟨d0, d1, d2, d3, _⟩, e0, e1, e2, e3⟩ := HW.out.cells
            unfold Does
            go_simp
            exact ⟨rfl, HW.out, Below.refl _ _⟩
          · change StepOk _ _ _ _ _ _ _
            intro ρ w1 hF hW
            have HW := hidden hW
            clear hW
            have e0 : ρ 0 = .pointer (some ⟨NB, 0, none⟩) := hF 0 (by decide)
            clear hF
            unfold Does
            go_simp
            exact ⟨rfl, HW.out, Below.refl _ _⟩
          · change StepOk _ _ _ _ _ _ _
            intro ρ w1 hF hW
            have HW := hidden hW
            clear hW
            have e31 : ρ 31 = .pointer (some ⟨NB, 0, none⟩) := hF 31 (by decide)
            clear hF
            unfold Does
            go_simp
            exact ⟨rfl, HW.out, Below.refl _ _⟩
          · change StepOk _ _ _ _ _ _ _
            intro ρ w1 hF hW
            have HW := hidden hW
            clear hW
            have e32 : ρ 32 = .pointer (some ⟨NB, 0, none⟩) := hF 32 (by decide)
            clear hF
            unfold Does
            go_simp
            exact ⟨rfl, HW.out, Below.refl _ _⟩
          · change StepOk _ _ _ _ _ _ _
            intro ρ w1 hF hW
            have HW := hidden hW
            clear hW
            have e33 : ρ 33 = .pointer (some ⟨NB, 1, none⟩) := hF 33 (by decide)
            clear hF
            obtain ⟨⟨c0, c1⟩, ⟨d0, d1, d2, d3, _⟩, e0, e1, e2, e3⟩ := HW.out.cells
            unfold Does
            go_simp
            exact ⟨rfl, HW.out, Below.refl _ _⟩
          · change StepOk _ _ _ _ _ _ _
            intro ρ w1 hF hW
            have HW := hidden hW
            clear hW
            have e13 : ρ 13 = .int .u8 (p : Int) := hF 13 (by decide)
            clear hF
            unfold Does
            go_simp
            exact ⟨rfl, HW.out, Below.refl _ _⟩
          · change StepOk _ _ _ _ _ _ _
            intro ρ w1 hF hW
            have HW := hidden hW
            clear hW
            have e34 : ρ 34 = .slice (some ⟨gn, 0, none⟩) m cn := hF 34 (by decide)
            have e35 : ρ 35 = .int .u8 (p : Int) := hF 35 (by decide)
            clear hF
            unfold Does
            go_simp
            exact ⟨rfl, HW.out, Below.refl _ _⟩
          · change StepOk _ _ _ _ _ _ _
            intro ρ w1 hF hW
            have HW := hidden hW
            clear hW
            have e36 : ρ 36 = .pointer (some ⟨gn, p * 4, none⟩) := hF 36 (by decide)
            clear hF
            obtain ⟨⟨c0, c1⟩, ⟨d0, d1, d2, d3, _⟩, e0, e1, e2, e3⟩ := HW.out.cells
            unfold Does
            go_simp
            exact ⟨rfl, HW.out, Below.refl _ _⟩
          · change StepOk _ _ _ _ _ _ _
            intro ρ w1 hF hW
            have HW := hidden hW
            clear hW
            have e30 : ρ 30 = (.agg #[.int .u64 (word (A) 0), .int .u64 (word (A) 1), .int .u64 (word (A) 2), .int .u64 (word (A) 3)]) := hF 30 (by decide)
            have e37 : ρ 37 = (.agg #[.int .u64 (word (G) 0), .int .u64 (word (G) 1), .int .u64 (word (G) 2), .int .u64 (word (G) 3)]) := hF 37 (by decide)
            clear hF
            unfold Does
            go_simp
            exact ⟨⟨_, rfl, sets_two w1 _ _ _⟩, Wrd.below HW.out ((Below.refl _ _).alloc (Nat.le_refl _) _), (Below.refl _ _).alloc (Nat.le_refl _) _⟩
          · change StepOk _ _ _ _ _ _ _
            intro ρ w1 hF hW
            have HW := hidden hW
            clear hW
            obtain ⟨ad, e38, hs⟩ : ∃ ad, ρ 38 = .slice ad 2 2 ∧ Sets w1 ad 2 [A, G] := hF 38 (by decide)
            clear hF
            unfold Does
            go_simp
            refine (all_calls _ 2 2 [A, G] _ (by omega) hs).mono ?_
            rintro e w2 ⟨rfl, hb⟩
            exact ⟨_, rfl, rfl, Wrd.below HW.out hb, hb⟩
      | false =>
        obtain ⟨hA1, hE1⟩ := hskip.out hG
        have HA1 := hidden hA1
        have HE1 := hidden hE1
        have HAF3 := hidden (HAF.out.below hb3)
        have HGR3 := hidden (gb_trans HGR.out (gb_below hb3))
        clear hb3 hA1 hE1 hG hmore hskip
        go_wp2
        have hlt' := hlt
        go_roundw
        case rel => exact ⟨k + 1, by omega, by go_num, by rw [← HE1.out], by rw [← HA1.out]; exact HAF3.out, HGR3.out⟩
        case measure => simp [intOf]; omega
    · obtain rfl : k = n := by omega
      have HAF := hidden haft
      have HGR := hidden hgr
      have h2r : wr.heap[w.heap.size + 2]? = some (.cells #[.int .u64 0, .int .u64 0, .int .u64 0, .int .u64 0] 33) := (hgr.block _ (by omega) (by simp)).trans HB22.out
      have H2R := hidden h2r
      obtain ⟨d0, d1, d2, d3, _⟩ := haft.facts
      generalize hA : aftK S E (elems O) c k = A at *
      have HA := hidden hA
      have HBW := hidden (HBB.out.grown hgr (by omega) (fun j e => by simp only [Option.some.injEq] at e; omega))
      clear haft hgr h2r hA
      go_wp2_with (refine store_row (B := w.heap.size + 2) (cs := #[.int .u64 (word (A) 0), .int .u64 (word (A) 1), .int .u64 (word (A) 2), .int .u64 (word (A) 3)]) (old := #[.int .u64 0, .int .u64 0, .int .u64 0, .int .u64 0]) (t := 33) rfl (ty := 33) (x := .tmp 8) (y := .tmp 47) rfl rfl rfl H2R.out 4 (by kernel_rfl) rfl rfl (by kernel_rfl) ?_; intro w6 hw6 hg6; have HL6 := hidden hw6; have HG6 := hidden hg6; clear hw6 hg6)
      exact ret_row_tmp (v := .bool (endK S L (elems O) c k)) Tryz.results72 rfl rfl rfl HL6.out rfl Tryz.underlying33 (by kernel_rfl) ⟨by rw [HA.out], HBW.out.grown HG6.out (by have := HBW.out.size; omega) (fun j e => by simp only [Option.some.injEq] at e; omega)⟩
end Go.Proofs.YthkboclooplpeaaGreatDoor

/- Which place of a word leads to which, as tables: the reference's way, and the words that are matched. Of no program. -/
namespace Go.Proofs.YthkboclooplpeaaGreatDoor

def mBoth (A B : Nat → Nat → Bool) (p q : Nat) : Bool := A p q || B p q
def mBehind (N : Nat) (A B : Nat → Nat → Bool) (p q : Nat) : Bool := (List.range N).any fun k => decide (p ≤ k) && (decide (k ≤ q) && (A p k && B k q))
def mSame (p q : Nat) : Bool := decide (p = q)
def mSet (f : Nat → Bool) (W : List Nat) (p q : Nat) : Bool := decide (p < W.length) && (decide (q = p + 1) && f (W.getD p 0))
def mAgain (N : Nat) (A : Nat → Nat → Bool) : Nat → Nat → Nat → Bool
  | 0 => A
  | t + 1 => mBoth (mAgain N A t) (mBehind N (mAgain N A t) (mAgain N A t))
/-- the same at all places of a word -/
def Alike (N : Nat) (A B : Nat → Nat → Bool) : Prop := ∀ p q, p < N → q < N → A p q = B p q
theorem Alike.refl (N : Nat) (A : Nat → Nat → Bool) : Alike N A A := fun _ _ _ _ => rfl
theorem Alike.trans {N : Nat} {A B C : Nat → Nat → Bool} (h : Alike N A B) (k : Alike N B C) : Alike N A C := fun p q hp hq => (h p q hp hq).trans (k p q hp hq)
theorem Alike.both {N : Nat} {A B A' B' : Nat → Nat → Bool} (h : Alike N A A') (k : Alike N B B') : Alike N (mBoth A B) (mBoth A' B') := fun p q hp hq => by
  simp only [mBoth, h p q hp hq, k p q hp hq]
theorem any_congr {α : Type} {l : List α} {f g : α → Bool} (h : ∀ x ∈ l, f x = g x) : l.any f = l.any g := by
  induction l with
  | nil => rfl
  | cons x r ih => rw [List.any_cons, List.any_cons, h x (by simp), ih fun y hy => h y (by simp [hy])]
theorem Alike.behind {N : Nat} {A B A' B' : Nat → Nat → Bool} (h : Alike N A A') (k : Alike N B B') : Alike N (mBehind N A B) (mBehind N A' B') := fun p q hp hq => by
  unfold mBehind
  refine any_congr fun x hx => ?_
  have hx' := List.mem_range.1 hx
  rw [h p x hp hx', k x q hx' hq]
theorem Alike.again {N : Nat} {A A' : Nat → Nat → Bool} (h : Alike N A A') : ∀ t, Alike N (mAgain N A t) (mAgain N A' t)
  | 0 => h
  | t + 1 => ((Alike.again h t).both ((Alike.again h t).behind (Alike.again h t)))

theorem sub_len {W : List Nat} {p q : Nat} (h : q ≤ W.length) : (sub W p q).length = q - p := by
  unfold sub
  simp
  omega
theorem sub_split {W : List Nat} {p k q : Nat} (h1 : p ≤ k) (h2 : k ≤ q) : sub W p q = sub W p k ++ sub W k q := by
  unfold sub
  have e : W.take q = W.take k ++ (W.take q).drop k := by
    have := (List.take_append_drop k (W.take q)).symm
    rwa [List.take_take, Nat.min_eq_left h2] at this
  rcases Nat.lt_or_ge W.length k with h | h
  · have e2 : (W.take q).drop k = [] := by
      rw [List.drop_eq_nil_iff]
      simp
      omega
    rw [e2, List.append_nil, List.take_of_length_le (by omega : W.length ≤ q), List.take_of_length_le (by omega : W.length ≤ k)]
  · conv => lhs; rw [e]
    rw [List.drop_append_of_le_length (by simp; omega)]
theorem sub_parts {W : List Nat} {p q : Nat} (hp : p ≤ q) (hq : q ≤ W.length) {x y : List Nat} (h : sub W p q = x ++ y) : p + x.length ≤ q ∧ x = sub W p (p + x.length) ∧ y = sub W (p + x.length) q := by
  have hl := congrArg List.length h
  rw [sub_len hq, List.length_append] at hl
  have h1 : p + x.length ≤ q := by omega
  have h2 := sub_split (W := W) (p := p) (k := p + x.length) (q := q) (by omega) h1
  rw [h] at h2
  have h3 := List.append_inj h2 (by rw [sub_len (by omega)]; omega)
  exact ⟨h1, h3.1, h3.2⟩
theorem sub_one {W : List Nat} {p : Nat} (h : p < W.length) : sub W p (p + 1) = [W.getD p 0] := by
  have e := sub_more W p 0
  rw [Nat.add_zero] at e
  rw [e, List.drop_eq_getElem_cons h, List.getD_eq_getElem?_getD, List.getElem?_eq_getElem h]
  rfl

theorem mat_set (f : Nat → Bool) {W : List Nat} (hW : ∀ c ∈ W, c < 256) : Alike (W.length + 1) (mSet f W) (lgB (.set f) W) := fun p q hp hq => by
  rw [Bool.eq_iff_iff, lgB_iff]
  simp only [mSet, Bool.and_eq_true, decide_eq_true_eq]
  constructor
  · rintro ⟨h1, rfl, h3⟩
    refine ⟨by omega, by omega, W.getD p 0, sub_one h1, hW _ ?_, h3⟩
    rw [List.getD_eq_getElem?_getD, List.getElem?_eq_getElem h1]
    exact List.getElem_mem h1
  · rintro ⟨h1, h2, c, h3, _, h5⟩
    have hl := congrArg List.length h3
    rw [sub_len h2] at hl
    simp only [List.length_cons, List.length_nil] at hl
    obtain rfl : q = p + 1 := by omega
    rw [sub_one (by omega)] at h3
    cases h3
    exact ⟨by omega, rfl, h5⟩
theorem mat_emp (W : List Nat) : Alike (W.length + 1) mSame (lgB .emp W) := fun p q hp hq => by
  rw [Bool.eq_iff_iff, lgB_iff]
  simp only [mSame, decide_eq_true_eq, Lang]
  constructor
  · rintro rfl
    exact ⟨Nat.le_refl _, by omega, sub_self W p⟩
  · rintro ⟨h1, h2, h3⟩
    have hl := congrArg List.length h3
    rw [sub_len h2] at hl
    simp only [List.length_nil] at hl
    omega
theorem mat_cat (a b : Ex) (W : List Nat) : Alike (W.length + 1) (mBehind (W.length + 1) (lgB a W) (lgB b W)) (lgB (.cat a b) W) := fun p q hp hq => by
  rw [Bool.eq_iff_iff, lgB_iff]
  simp only [mBehind, List.any_eq_true, List.mem_range, Bool.and_eq_true, decide_eq_true_eq, lgB_iff, Lang]
  constructor
  · rintro ⟨k, hk, h1, h2, ⟨_, h4, h5⟩, _, h7, h8⟩
    exact ⟨by omega, h7, _, _, sub_split h1 h2, h5, h8⟩
  · rintro ⟨h1, h2, x, y, h3, h4, h5⟩
    obtain ⟨g1, g2, g3⟩ := sub_parts h1 h2 h3
    rw [g2] at h4
    rw [g3] at h5
    exact ⟨p + x.length, by omega, by omega, g1, ⟨by omega, by omega, h4⟩, g1, h2, h5⟩
theorem mat_alt (a b : Ex) (W : List Nat) : Alike (W.length + 1) (mBoth (lgB a W) (lgB b W)) (lgB (.alt a b) W) := fun p q hp hq => by
  rw [Bool.eq_iff_iff, lgB_iff]
  simp only [mBoth, Bool.or_eq_true, lgB_iff, Lang]
  constructor
  · rintro (⟨h1, h2, h3⟩ | ⟨h1, h2, h3⟩)
    · exact ⟨h1, h2, .inl h3⟩
    · exact ⟨h1, h2, .inr h3⟩
  · rintro ⟨h1, h2, h3 | h3⟩
    · exact .inl ⟨h1, h2, h3⟩
    · exact .inr ⟨h1, h2, h3⟩
/-- put together of some of the words -/
theorem many_words {P : List Nat → Prop} {u : List Nat} (h : Many P u) : ∃ ws : List (List Nat), 1 ≤ ws.length ∧ (∀ w ∈ ws, P w) ∧ u = ws.flatten := by
  induction h with
  | @one u h => exact ⟨[u], by simp, by simpa using h, by simp⟩
  | @more u v h t ih =>
    obtain ⟨ws, h1, h2, rfl⟩ := ih
    exact ⟨u :: ws, by simp, by simpa using ⟨h, h2⟩, by simp⟩
theorem words_many {P : List Nat → Prop} : ∀ ws : List (List Nat), 1 ≤ ws.length → (∀ w ∈ ws, P w) → Many P ws.flatten
  | [], h, _ => by simp at h
  | [u], _, h => by simpa using Many.one (h u (by simp))
  | u :: v :: r, _, h => by
    rw [List.flatten_cons]
    exact .more (h u (by simp)) (words_many (v :: r) (by simp) fun w hw => h w (by simp [hw]))
/-- no more words than bytes, but for one -/
theorem few_words {P : List Nat → Prop} {u : List Nat} (h : Many P u) : ∃ ws : List (List Nat), 1 ≤ ws.length ∧ ws.length ≤ u.length + 1 ∧ (∀ w ∈ ws, P w) ∧ u = ws.flatten := by
  obtain ⟨ws, h1, h2, h3⟩ := many_words h
  by_cases hu : u = []
  · subst hu
    cases ws with
    | nil => simp at h1
    | cons w r =>
      have hw : w = [] := by
        rw [List.flatten_cons] at h3
        exact (List.append_eq_nil_iff.1 h3.symm).1
      exact ⟨[w], by simp, by simp, by simpa using h2 w (by simp), by simp [hw]⟩
  · have key : ∀ l : List (List Nat), (∀ w ∈ l, P w) → ∃ l' : List (List Nat), l'.length ≤ l.flatten.length ∧ (∀ w ∈ l', P w) ∧ l'.flatten = l.flatten := by
      intro l
      induction l with
      | nil => exact fun _ => ⟨[], by simp, by simp, rfl⟩
      | cons w r ih =>
        intro hl
        obtain ⟨l', g1, g2, g3⟩ := ih fun x hx => hl x (by simp [hx])
        by_cases hw : w = []
        · subst hw
          exact ⟨l', by simpa using g1, g2, by simpa using g3⟩
        · refine ⟨w :: l', ?_, ?_, by simp [g3]⟩
          · have : 1 ≤ w.length := by cases w <;> simp_all
            simp only [List.length_cons, List.flatten_cons, List.length_append]
            omega
          · intro x hx
            rcases List.mem_cons.1 hx with rfl | hx
            · exact hl x (by simp)
            · exact g2 x hx
    obtain ⟨l', g1, g2, g3⟩ := key ws h2
    rw [← h3] at g1 g3
    refine ⟨l', ?_, by omega, g2, g3.symm⟩
    cases l' with
    | nil =>
      simp at g3
      exact absurd g3.symm (by simpa using hu)
    | cons => simp
theorem many_append {P : List Nat → Prop} {u v : List Nat} (h : Many P u) (k : Many P v) : Many P (u ++ v) := by
  induction h with
  | one h => exact .more h k
  | more h t ih => rw [List.append_assoc]; exact .more h ih
theorem again_sound {a : Ex} {W : List Nat} : ∀ t p q, p < W.length + 1 → q < W.length + 1 → mAgain (W.length + 1) (lgB a W) t p q = true → p ≤ q ∧ Many (Lang a) (sub W p q)
  | 0, p, q, _, _, h => by
    obtain ⟨h1, _, h3⟩ := lgB_iff.1 h
    exact ⟨h1, .one h3⟩
  | t + 1, p, q, hp, hq, h => by
    simp only [mAgain, mBoth, Bool.or_eq_true] at h
    rcases h with h | h
    · exact again_sound t p q hp hq h
    · simp only [mBehind, List.any_eq_true, List.mem_range, Bool.and_eq_true, decide_eq_true_eq] at h
      obtain ⟨k, hk, h1, h2, h3, h4⟩ := h
      rw [sub_split h1 h2]
      exact ⟨by omega, many_append (again_sound t p k hp hk h3).2 (again_sound t k q hk hq h4).2⟩
theorem again_full {a : Ex} {W : List Nat} : ∀ t p q, p ≤ q → q < W.length + 1 → ∀ ws : List (List Nat), 1 ≤ ws.length → ws.length ≤ 2 ^ t → (∀ w ∈ ws, Lang a w) → sub W p q = ws.flatten → mAgain (W.length + 1) (lgB a W) t p q = true
  | 0, p, q, hp, hq, ws, h1, h2, h3, h4 => by
    match ws, h1, h2 with
    | [w], _, _ =>
      simp only [List.flatten_cons, List.flatten_nil, List.append_nil] at h4
      exact lgB_iff.2 ⟨hp, by omega, by rw [h4]; exact h3 w (by simp)⟩
    | _ :: _ :: _, _, h2 => simp at h2
  | t + 1, p, q, hp, hq, ws, h1, h2, h3, h4 => by
    simp only [mAgain, mBoth, Bool.or_eq_true]
    by_cases hs : ws.length ≤ 2 ^ t
    · exact .inl (again_full t p q hp hq ws h1 hs h3 h4)
    · refine .inr ?_
      have hpow : 2 ^ (t + 1) = 2 * 2 ^ t := by rw [Nat.pow_succ]; omega
      have hpos : 1 ≤ 2 ^ t := Nat.one_le_two_pow
      have e : ws = ws.take (2 ^ t) ++ ws.drop (2 ^ t) := (List.take_append_drop _ _).symm
      rw [e, List.flatten_append] at h4
      obtain ⟨g1, g2, g3⟩ := sub_parts hp (by omega) h4
      simp only [mBehind, List.any_eq_true, List.mem_range, Bool.and_eq_true, decide_eq_true_eq]
      refine ⟨p + (ws.take (2 ^ t)).flatten.length, by omega, by omega, g1, ?_, ?_⟩
      · exact again_full t _ _ (by omega) (by omega) (ws.take (2 ^ t)) (by simp; omega) (by simp; omega) (fun w hw => h3 w (List.mem_of_mem_take hw)) g2.symm
      · exact again_full t _ _ g1 hq (ws.drop (2 ^ t)) (by simp; omega) (by simp; omega) (fun w hw => h3 w (List.mem_of_mem_drop hw)) g3.symm
theorem again_iff {a : Ex} {W : List Nat} {t : Nat} (ht : W.length + 1 < 2 ^ t) {p q : Nat} (hp : p < W.length + 1) (hq : q < W.length + 1) : mAgain (W.length + 1) (lgB a W) t p q = true ↔ p ≤ q ∧ Many (Lang a) (sub W p q) := by
  refine ⟨again_sound t p q hp hq, fun ⟨h1, h2⟩ => ?_⟩
  obtain ⟨ws, g1, g2, g3, g4⟩ := few_words h2
  rw [sub_len (by omega)] at g2
  exact again_full t p q h1 hq ws g1 (by omega) g3 g4
theorem mat_plus (a : Ex) {W : List Nat} {t : Nat} (ht : W.length + 1 < 2 ^ t) : Alike (W.length + 1) (mAgain (W.length + 1) (lgB a W) t) (lgB (.un 6 a) W) := fun p q hp hq => by
  rw [Bool.eq_iff_iff, again_iff ht hp hq, lgB_iff]
  simp only [Lang, Int.reduceEq, if_false, if_true]
  exact ⟨fun h => ⟨h.1, by omega, h.2⟩, fun h => ⟨h.1, h.2.2⟩⟩
theorem mat_star (a : Ex) {W : List Nat} {t : Nat} (ht : W.length + 1 < 2 ^ t) : Alike (W.length + 1) (mBoth mSame (mAgain (W.length + 1) (lgB a W) t)) (lgB (.un 5 a) W) := fun p q hp hq => by
  rw [Bool.eq_iff_iff, lgB_iff]
  simp only [mBoth, Bool.or_eq_true, again_iff ht hp hq, mSame, decide_eq_true_eq, Lang, if_true]
  constructor
  · rintro (rfl | ⟨h1, h2⟩)
    · exact ⟨Nat.le_refl _, by omega, .inl (sub_self W p)⟩
    · exact ⟨h1, by omega, .inr h2⟩
  · rintro ⟨h1, h2, h3 | h3⟩
    · have hl := congrArg List.length h3
      rw [sub_len h2] at hl
      simp only [List.length_nil] at hl
      exact .inl (by omega)
    · exact .inr ⟨h1, h3⟩
theorem mat_opt (a : Ex) (W : List Nat) : Alike (W.length + 1) (mBoth mSame (lgB a W)) (lgB (.un 7 a) W) := fun p q hp hq => by
  rw [Bool.eq_iff_iff, lgB_iff]
  simp only [mBoth, Bool.or_eq_true, lgB_iff, mSame, decide_eq_true_eq, Lang, Int.reduceEq, if_false]
  constructor
  · rintro (rfl | ⟨h1, h2, h3⟩)
    · exact ⟨Nat.le_refl _, by omega, .inl (sub_self W p)⟩
    · exact ⟨h1, h2, .inr h3⟩
  · rintro ⟨h1, h2, h3 | h3⟩
    · have hl := congrArg List.length h3
      rw [sub_len h2] at hl
      simp only [List.length_nil] at hl
      exact .inl (by omega)
    · exact .inr ⟨h1, h2, h3⟩
end Go.Proofs.YthkboclooplpeaaGreatDoor
