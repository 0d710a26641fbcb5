/- TxtRuns, TxtSets, TxtWithin, TxtParts, put together. -/
import Derived.Test.YthiiinbkkjacbaaDoorRt06
import Derived.Test.YthiiinbkkjacbaaDoorRt09
import Derived.Test.YthiiinbkkjacbaaDoorRt05
import Derived.Test.YthiiinbkkjacbaaDoorRt13
import Derived.Test.YthiiinbkkjacbaaDoorRt10
import Derived.Test.YthiiinbkkjacbaaDoorRt04
import Derived.Test.YthiiinbkkjacbaaDoorRt12
import Derived.Test.YthiiinbkkjacbaaDoorRt07
import Derived.Deep.AppendLies
import Derived.Deep.RegionLaw
/- The contract of showRuns. -/
namespace Go.Proofs.YthiiinbkkjacbaaDoor
open Go.RowKit Go.Lib Go.Joins

theorem runsL_le (f : Nat → Bool) (k : Nat) : (runsL ((runs f).take k)).length ≤ 1200 := by
  have h := runs_len _ f (Nat.le_refl _)
  have h2 : out f ≤ sm (fun _ => 9) 257 := sm_le 257 fun b hb => by
    have := wt_le b
    split <;> omega
  have h3 : sm (fun _ => 9) 257 = 2313 := by decide +kernel
  have h4 : (runsL ((runs f).take k)).length ≤ (runsL (runs f)).length := by
    have e : runsL (runs f) = runsL ((runs f).take k) ++ runsL ((runs f).drop k) := by
      unfold runsL
      rw [← List.flatMap_append, List.take_append_drop]
    rw [e, List.length_append]
    omega
  omega
theorem runsL_more (L : List (Nat × Nat)) (k : Nat) (h : k < L.length) : runsL (L.take (k + 1)) = runsL (L.take k) ++ runTxt (L.getD k (0, 0)) := by
  unfold runsL
  rw [List.take_succ_eq_append_getElem h, List.flatMap_append, List.getD_eq_getElem?_getD, List.getElem?_eq_getElem h]
  simp
theorem pairsV_get : ∀ (L : List (Nat × Nat)) (k : Nat), k < L.length → (pairsV L)[k * 2]? = some (.int .i64 (L.getD k (0, 0)).1) ∧ (pairsV L)[k * 2 + 1]? = some (.int .i64 (L.getD k (0, 0)).2)
  | [], k, h => by simp at h
  | p :: r, 0, _ => by simp [pairsV, pairV]
  | p :: r, k + 1, h => by
    have ih := pairsV_get r k (by simpa using h)
    have e : pairsV (p :: r) = pairV p ++ pairsV r := by simp [pairsV]
    rw [e, List.getElem?_append_right (by simp [pairV]; omega), List.getElem?_append_right (by simp [pairV]; omega)]
    simp only [pairV, List.length_cons, List.length_nil, List.getD_cons_succ]
    rw [show (k + 1) * 2 - (0 + 1 + 1) = k * 2 by omega, show (k + 1) * 2 + 1 - (0 + 1 + 1) = k * 2 + 1 by omega]
    exact ih
theorem fresh_holds (w : World) : Holds (w.alloc (.cells #[.pointer none, .slice none 0 0] 67)) w.heap.size w.heap.size ByteArray.empty := by
  exact .inl ⟨Nat.le_refl _, .slice none 0 0, heap_alloc_new w _, ⟨rfl, .inl ⟨rfl, rfl⟩⟩, by simp [Value.ownBlock]⟩
theorem Holds.later {w w' : World} {B b : Nat} {s : ByteArray} (h : Holds w B b s) (hb : Below w.heap.size w w') : Holds w' B b s := by
  have go : ∀ p, Lib.BuilderAtF 67 5 B b p (Lib.strCells s) w → Lib.BuilderAtF 67 5 B b p (Lib.strCells s) w' := fun p h => by
    have hlt := h.lt
    obtain ⟨hB, v, hbk, hown, hne⟩ := h
    exact ⟨hB, v, (hb.block b hlt).trans hbk, hown.kept (row := none) ⟨hb.os, hb.tape, hb.output, hb.size, fun k hk _ => hb.block k hk⟩ (by cases v.ownBlock <;> simp), hne⟩
  exact h.elim (fun h => .inl (go _ h)) (fun h => .inr (go _ h))
/-- block q holds cells of pairs, as it did -/
def PairsAt (W : World) (q : Nat) (cs : Array Value) : Prop := W.heap[q]? = some (.cells cs 70 (0, 0))
theorem PairsAt.lt {W : World} {q : Nat} {cs : Array Value} (h : PairsAt W q cs) : q < W.heap.size := (Array.getElem?_eq_some_iff.1 h).1
theorem PairsAt.keepB {W W' : World} {q b : Nat} {cs : Array Value} (h : PairsAt W q cs) (hk : KeepB b W W') (hne : q ≠ b) : PairsAt W' q cs :=
  (hk.block q h.lt hne fun cs' fr e => by
    rw [show W.heap[q]? = _ from h] at e
    simp at e).trans h
theorem PairsAt.below {W W' : World} {q : Nat} {cs : Array Value} (h : PairsAt W q cs) (hb : Below W.heap.size W W') : PairsAt W' q cs := (hb.block q h.lt).trans h
/-- the text so far, the list of pairs, and what is older -/
structure RunSt (w : World) (B g : Nat) (cur : Array Value) (t : List UInt8) (W : World) : Prop where
  text : Holds W B B (txt t)
  row : PairsAt W g cur
  old : Below w.heap.size w W
  low : w.heap.size ≤ B
  ne : B < g
theorem RunSt.below {w W W' : World} {B g : Nat} {cur : Array Value} {t : List UInt8} (h : RunSt w B g cur t W) (hb : Below W.heap.size W W') : RunSt w B g cur t W' :=
  ⟨h.text.later hb, h.row.below hb, below_after h.old hb, h.low, h.ne⟩
theorem RunSt.wrote {w W W' : World} {B g : Nat} {cur : Array Value} {t t' : List UInt8} (h : RunSt w B g cur t W) (ht : Holds W' B B (txt t')) (hb : Below B W W') (hk : KeepB B W W') : RunSt w B g cur t' W' :=
  ⟨ht, h.row.keepB hk (by have := h.ne; omega), h.old.trans (hb.mono h.low), h.low, h.ne⟩
theorem RunSt.size {w W : World} {B g : Nat} {cur : Array Value} {t : List UInt8} (h : RunSt w B g cur t W) : B ≤ W.heap.size := by
  have := h.row.lt
  have := h.ne
  omega
theorem RunSt.string {w W : World} {B g : Nat} {cur : Array Value} {t : List UInt8} (h : RunSt w B g cur t W) (x : List UInt8) (ht : t.length ≤ 2000) (hx : x.length ≤ 2000) :
    Calls Tryd.prog 42 #[.pointer (some ⟨B, 0, none⟩), .string (txt x)] W fun e w' => e = .returned (.tuple #[.int .i64 x.length, .nilIface]) ∧ RunSt w B g cur (t ++ x) w' ∧ KeepB B W w' := by
  refine (wstring_calls h.text (txt x) (by rw [txt_size]; omega) (by rw [txt_size]; omega) h.size).mono ?_
  rintro e w' ⟨rfl, h1, h2, h3⟩
  rw [txt_add] at h1
  exact ⟨rfl, h.wrote h1 h2 h3, h3⟩
theorem RunSt.dash {w W : World} {B g : Nat} {cur : Array Value} {t : List UInt8} (h : RunSt w B g cur t W) (ht : t.length ≤ 2000) :
    Calls Tryd.prog 44 #[.pointer (some ⟨B, 0, none⟩), .int .u8 45] W fun e w' => e = .returned .nilIface ∧ RunSt w B g cur (t ++ [45]) w' ∧ KeepB B W w' := by
  refine (wbyte_calls h.text 45 (by decide) (by decide) (by rw [txt_size]; omega) h.size).mono ?_
  rintro e w' ⟨rfl, h1, h2, h3⟩
  rw [show strOfNums [45] = txt [45] from rfl, txt_add] at h1
  exact ⟨rfl, h.wrote h1 h2 h3, h3⟩
theorem PairsAt.cells {W : World} {q : Nat} {x y : Value} (h : PairsAt W q #[x, y]) : W.cell? ⟨q, 0, none⟩ = some x ∧ W.cell? ⟨q, 1, none⟩ = some y :=
  ⟨(cell_of_row W q 0 _ _ _ h), (cell_of_row W q 1 _ _ _ h)⟩
set_option maxHeartbeats 4000000 in
set_option maxRecDepth 100000 in
theorem showRuns_calls (f : Nat → Bool) (w : World) (ht : Tab w) :
    Calls Tryd.prog 22 #[(.agg #[.int .u64 (word (f) 0), .int .u64 (word (f) 1), .int .u64 (word (f) 2), .int .u64 (word (f) 3)])] w fun e w' => e = .returned (.string (txt (runsL (runs f)))) ∧ Below w.heap.size w w' := by
  have h0 : Holds ((w.alloc (.cells #[.int .u64 (word (f) 0), .int .u64 (word (f) 1), .int .u64 (word (f) 2), .int .u64 (word (f) 3)] 25)).alloc (.cells #[.pointer none, .slice none 0 0] 67)) (w.heap.size + 1) (w.heap.size + 1) (txt []) := by
    have := fresh_holds (w.alloc (.cells #[.int .u64 (word (f) 0), .int .u64 (word (f) 1), .int .u64 (word (f) 2), .int .u64 (word (f) 3)] 25))
    have e : (w.alloc (.cells #[.int .u64 (word (f) 0), .int .u64 (word (f) 1), .int .u64 (word (f) 2), .int .u64 (word (f) 3)] 25)).heap.size = w.heap.size + 1 := by simp
    rw [e] at this
    exact this
  have HR := hidden (runs_calls f ((w.alloc (.cells #[.int .u64 (word (f) 0), .int .u64 (word (f) 1), .int .u64 (word (f) 2), .int .u64 (word (f) 3)] 25)).alloc (.cells #[.pointer none, .slice none 0 0] 67)) ((ht.below ((Below.refl w.heap.size w).alloc (Nat.le_refl _) _)).below ((Below.refl _ _).alloc (Nat.le_refl _) _)))
  have H0 := hidden h0
  have HL := hidden (runsL_le f)
  obtain ⟨T0, hT0⟩ : ∃ T, T = runsL (runs f) := ⟨_, rfl⟩
  rw [← hT0]
  have HT0 := hidden hT0
  clear ht h0 hT0
  go_enter Tryd.func22, Tryd.ntmps22
  go_wp2_with fail
  refine HR.out.mono ?_
  rintro e w1 ⟨v, rfl, hown, hb1⟩
  have hH1 := H0.out.later hb1
  have hB1 : Below w.heap.size w w1 := below_after (((Below.refl w.heap.size w).alloc (Nat.le_refl _) _).alloc (by simp) _) hb1
  rcases hown.2 with ⟨rfl, hn⟩ | ⟨g, cap, cur, rfl, hg, hgg, hncap, hcapm, hcs, htake⟩
  · have HN := hidden (show runs f = [] from List.eq_nil_of_length_eq_zero hn)
    have H1 := hidden hH1
    have HB1 := hidden hB1
    have hs := hB1.size
    have hs2 : Hid (w.heap.size + 1 ≤ w1.heap.size) := hidden (by have := hb1.size; simp at this; omega)
    clear hown hb1 hn hH1 hB1 hs
    go_wp2
    refine wp_loop_rounds 1 ?_
    rw [rounds_succ]
    go_wp2_with fail
    refine (text_calls H1.out hs2.out).mono ?_
    rintro e w2 ⟨rfl, hb2⟩
    have HB2 := hidden (HB1.out.trans (hb2.mono (Nat.le_succ _)))
    go_wp2
    go_ret
    exact ⟨by rw [HT0.out, HN.out]; rfl, HB2.out⟩
  · have hst : RunSt w (w.heap.size + 1) g cur [] w1 := ⟨hH1, hgg, hB1, by omega, by simp at hg; omega⟩
    have HST := hidden hst
    have hget := fun k hk => pairsV_get (runs f) k hk
    have hcur : ∀ j, j < (runs f).length * 2 → cur[j]? = (pairsV (runs f))[j]? := fun j hj => by
      rw [← htake, List.getElem?_take, if_pos hj]
      simp
    have hrun := fun k (hk : k < (runs f).length) => runs_le2 (f := f) (p := (runs f).getD k (0, 0)) (by
      rw [List.getD_eq_getElem?_getD, List.getElem?_eq_getElem hk]
      exact List.getElem_mem hk)
    have hmore := fun k (hk : k < (runs f).length) => runsL_more (runs f) k hk
    have hall : runsL ((runs f).take (runs f).length) = T0 := by rw [List.take_length, HT0.out]
    clear HT0
    generalize hnn : (runs f).length = n at *
    generalize runs f = L at *
    have HG := hidden (fun k hk => And.intro ((hcur (k * 2) (by omega)).trans (hget k hk).1) ((hcur (k * 2 + 1) (by omega)).trans (hget k hk).2))
    have HRUN := hidden hrun
    have HM := hidden hmore
    have HALL := hidden hall
    unfold maxLen at hcapm
    clear hown hb1 hH1 hB1 hgg hst hget hcur hrun hmore hall hcs htake hg hnn
    go_wp2
    go_loopw [9] (fun i wr => ∃ k : Nat, k ≤ n ∧ i = .int .i64 k ∧ RunSt w (w.heap.size + 1) g cur (runsL (L.take k)) wr) (fun i _ => n - (RowKit.intOf i).toNat)
    case atStart => exact ⟨0, by omega, rfl, HST.out⟩
    case round =>
      obtain ⟨k, hk, rfl, hst⟩ := hrel
      have HS := hidden hst
      have hsz := HL.out k
      clear hst
      by_cases hlt : k < n
      · obtain ⟨g0, g1⟩ := HG.out k hlt
        have c0 : wr.cell? ⟨g, k * 2, none⟩ = _ := (cell_of_row wr g (k * 2) _ _ _ HS.out.row).trans g0
        have c1 : wr.cell? ⟨g, k * 2 + 1, none⟩ = _ := (cell_of_row wr g (k * 2 + 1) _ _ _ HS.out.row).trans g1
        obtain ⟨r1, r2⟩ := HRUN.out k hlt
        have hmk := HM.out k hlt
        generalize L.getD k (0, 0) = p at *
        obtain ⟨a, b⟩ := p
        generalize runsL (L.take k) = T at *
        simp only at c0 c1 r1 r2
        have HMK := hidden hmk
        clear g0 g1 hmk
        have m1 := hidden (fun W => member_calls a W (by omega))
        have m2 := hidden (fun W => member_calls b W (by omega))
        have l1 := (chr_pos RC a).2
        have l2 := (chr_pos RC b).2
        have q0 : decide ((k : Int) < n) = true := decide_eq_true (by omega)
        have hadd : IntKind.i64.wrap ((k : Int) + 1) = (k : Int) + 1 := by rw [IntKind.wrap_i64]; omega
        have hadd2 : IntKind.i64.wrap ((a : Int) + 1) = (a : Int) + 1 := by rw [IntKind.wrap_i64]; omega
        have h1 := HS.out.below ((Below.refl wr.heap.size wr).alloc (Nat.le_refl _) (.cells #[.int .i64 a, .int .i64 b] 70))
        have HX := hidden (show PairsAt (wr.alloc (.cells #[.int .i64 a, .int .i64 b] 70)) wr.heap.size #[.int .i64 a, .int .i64 b] from heap_alloc_new wr _)
        have HW := hidden h1
        have hws := hidden HS.out.size
        have HSZ := hidden HS.out.ne
        clear h1
        rcases Nat.lt_or_ge a b with hab | hab
        · have hp1 : decide ((a : Int) < b) = true := decide_eq_true (by omega)
          have hp2 : decide (a < b) = true := decide_eq_true (by omega)
          rcases Nat.lt_or_ge (a + 1) b with hab1 | hab1
          · have hp3 : decide ((a : Int) + 1 < b) = true := decide_eq_true (by omega)
            have HT := hidden (show T ++ runTxt (a, b) = T ++ chr RC a ++ [45] ++ chr RC b by simp [runTxt, hab, hab1])
            clear hab hab1
            go_wp2_with fail
            refine (m1.out _).mono ?_
            rintro e w2 ⟨rfl, hb2⟩
            have h2 := HW.out.below hb2
            have x2 := HX.out.below hb2
            have hc := hidden (h2.string (chr RC a) (by omega) (by omega))
            have hl := x2.lt
            have X2 := hidden x2
            clear h2 x2 hb2
            go_wp2_with fail
            refine hc.out.mono ?_
            rintro e w3 ⟨rfl, h3, k3⟩
            have hne : wr.heap.size ≠ w.heap.size + 1 := by have := hws.out; have := HSZ.out; have := HS.out.row.lt; omega
            have x3 := X2.out.keepB k3 hne
            obtain ⟨y0, y1⟩ := x3.cells
            have hc3 := hidden (h3.dash (by simp only [List.length_append]; omega))
            have X3 := hidden x3
            clear h3 k3 x3
            go_wp2_with fail
            refine hc3.out.mono ?_
            rintro e w4 ⟨rfl, h4, k4⟩
            have x4 := X3.out.keepB k4 hne
            clear y0 y1
            obtain ⟨y0, y1⟩ := x4.cells
            have H4 := hidden h4
            have X4 := hidden x4
            clear h4 x4 k4
            go_wp2_with fail
            refine (m2.out _).mono ?_
            rintro e w5 ⟨rfl, hb5⟩
            have h5 := H4.out.below hb5
            have hc5 := hidden (h5.string (chr RC b) (by simp only [List.length_append, List.length_cons, List.length_nil]; omega) (by omega))
            clear h5 hb5 y0 y1
            go_wp2_with fail
            refine hc5.out.mono ?_
            rintro e w6 ⟨rfl, h6, k6⟩
            have H6 := hidden h6
            clear h6 k6
            go_wp2
            refine ⟨⟨k + 1, by omega, by go_num, ?_⟩, by simp [RowKit.intOf]; omega⟩
            rw [HMK.out, HT.out]
            exact H6.out
          · have hp3 : decide ((a : Int) + 1 < b) = false := decide_eq_false (by omega)
            have HT := hidden (show T ++ runTxt (a, b) = T ++ chr RC a ++ chr RC b by simp [runTxt, hab, show ¬ a + 1 < b by omega])
            clear hab hab1
            go_wp2_with fail
            refine (m1.out _).mono ?_
            rintro e w2 ⟨rfl, hb2⟩
            have h2 := HW.out.below hb2
            have x2 := HX.out.below hb2
            have hc := hidden (h2.string (chr RC a) (by omega) (by omega))
            have hl := x2.lt
            have X2 := hidden x2
            clear h2 x2 hb2
            go_wp2_with fail
            refine hc.out.mono ?_
            rintro e w3 ⟨rfl, h3, k3⟩
            have hne : wr.heap.size ≠ w.heap.size + 1 := by have := hws.out; have := HSZ.out; have := HS.out.row.lt; omega
            have x3 := X2.out.keepB k3 hne
            obtain ⟨y0, y1⟩ := x3.cells
            have H3 := hidden h3
            clear h3 k3 x3
            go_wp2_with fail
            refine (m2.out _).mono ?_
            rintro e w5 ⟨rfl, hb5⟩
            have h5 := H3.out.below hb5
            have hc5 := hidden (h5.string (chr RC b) (by simp only [List.length_append]; omega) (by omega))
            clear h5 hb5 y0 y1
            go_wp2_with fail
            refine hc5.out.mono ?_
            rintro e w6 ⟨rfl, h6, k6⟩
            have H6 := hidden h6
            clear h6 k6
            go_wp2
            refine ⟨⟨k + 1, by omega, by go_num, ?_⟩, by simp [RowKit.intOf]; omega⟩
            rw [HMK.out, HT.out]
            exact H6.out
        · have hp1 : decide ((a : Int) < b) = false := decide_eq_false (by omega)
          have hp2 : decide (a < b) = false := decide_eq_false (by omega)
          have hp3 : decide ((a : Int) + 1 < b) = false := decide_eq_false (by omega)
          have HT := hidden (show T ++ runTxt (a, b) = T ++ chr RC a by simp [runTxt, show ¬ a + 1 < b by omega, show ¬ a < b by omega])
          clear hab
          go_wp2_with fail
          refine (m1.out _).mono ?_
          rintro e w2 ⟨rfl, hb2⟩
          have h2 := HW.out.below hb2
          have x2 := HX.out.below hb2
          have hc := hidden (h2.string (chr RC a) (by omega) (by omega))
          have hl := x2.lt
          have X2 := hidden x2
          clear h2 x2 hb2
          go_wp2_with fail
          refine hc.out.mono ?_
          rintro e w3 ⟨rfl, h3, k3⟩
          have hne : wr.heap.size ≠ w.heap.size + 1 := by have := hws.out; have := HSZ.out; have := HS.out.row.lt; omega
          have x3 := X2.out.keepB k3 hne
          obtain ⟨y0, y1⟩ := x3.cells
          have H3 := hidden h3
          clear h3 k3 x3
          go_wp2
          refine ⟨⟨k + 1, by omega, by go_num, ?_⟩, by simp [RowKit.intOf]; omega⟩
          rw [HMK.out, HT.out]
          exact H3.out
      · obtain rfl : k = n := by omega
        have q0 : decide ((k : Int) < k) = false := decide_eq_false (by omega)
        have HB := hidden HS.out.old
        have hc := hidden (text_calls HS.out.text HS.out.size)
        go_wp2_with fail
        refine hc.out.mono ?_
        rintro e w2 ⟨rfl, hb2⟩
        have HB2 := hidden (HB.out.trans (hb2.mono (Nat.le_succ _)))
        clear hb2
        go_wp2
        go_ret
        exact ⟨by rw [HALL.out]; rfl, HB2.out⟩
end Go.Proofs.YthiiinbkkjacbaaDoor

/- The contract of ShowSet. -/
namespace Go.Proofs.YthiiinbkkjacbaaDoor
open Go.RowKit

theorem count_nat (f : Nat → Bool) (w : World) : Calls Tryd.prog 17 #[(.agg #[.int .u64 (word (f) 0), .int .u64 (word (f) 1), .int .u64 (word (f) 2), .int .u64 (word (f) 3)])] w fun e w' => e = .returned (.int .i64 ((elems f).length : Nat)) ∧ Below w.heap.size w w' := by
  have := count_calls f w
  rw [count_words] at this
  exact this
set_option maxRecDepth 100000 in
theorem others_calls (f : Nat → Bool) (w : World) : Calls Tryd.prog 21 #[(.agg #[.int .u64 (word (f) 0), .int .u64 (word (f) 1), .int .u64 (word (f) 2), .int .u64 (word (f) 3)])] w fun e w' => e = .returned (.bool (others f)) ∧ Below w.heap.size w w' := by
  have HC := hidden (count_nat f)
  have hv : others f = ((elems f).length == 0 || (decide (128 < (elems f).length) && decide ((elems f).length < 256))) := rfl
  rw [hv]
  clear hv
  generalize (elems f).length = n at *
  by_cases h0 : n = 0
  · have q0 : ((n : Int) == 0) = true := by simp; omega
    have HR := hidden (show (n == 0 || (decide (128 < n) && decide (n < 256))) = true by simp [h0])
    clear h0
    go_enter Tryd.func21, Tryd.ntmps21
    go_wp2_with fail
    refine (HC.out _).mono ?_
    rintro e w1 ⟨rfl, hb1⟩
    go_wp2
    go_ret
    exact ⟨ret_b HR.out.symm, below_after ((Below.refl w.heap.size w).alloc (Nat.le_refl _) _) hb1⟩
  · have q0 : ((n : Int) == 0) = false := by simp; omega
    by_cases h1 : 128 < n
    · have q1 : decide ((128 : Int) < n) = true := decide_eq_true (by omega)
      by_cases h2 : n < 256
      · have q2 : decide ((n : Int) < 256) = true := decide_eq_true (by omega)
        have HR := hidden (show (n == 0 || (decide (128 < n) && decide (n < 256))) = true by simp [h1, h2])
        clear h0 h1 h2
        go_enter Tryd.func21, Tryd.ntmps21
        go_wp2_with fail
        refine (HC.out _).mono ?_
        rintro e w1 ⟨rfl, hb1⟩
        go_wp2
        go_ret
        exact ⟨ret_b HR.out.symm, below_after ((Below.refl w.heap.size w).alloc (Nat.le_refl _) _) hb1⟩
      · have q2 : decide ((n : Int) < 256) = false := decide_eq_false (by omega)
        have HR := hidden (show (n == 0 || (decide (128 < n) && decide (n < 256))) = false by simp [h0, h2])
        clear h0 h1 h2
        go_enter Tryd.func21, Tryd.ntmps21
        go_wp2_with fail
        refine (HC.out _).mono ?_
        rintro e w1 ⟨rfl, hb1⟩
        go_wp2
        go_ret
        exact ⟨ret_b HR.out.symm, below_after ((Below.refl w.heap.size w).alloc (Nat.le_refl _) _) hb1⟩
    · have q1 : decide ((128 : Int) < n) = false := decide_eq_false (by omega)
      have HR := hidden (show (n == 0 || (decide (128 < n) && decide (n < 256))) = false by simp [h0, h1])
      clear h0 h1
      go_enter Tryd.func21, Tryd.ntmps21
      go_wp2_with fail
      refine (HC.out _).mono ?_
      rintro e w1 ⟨rfl, hb1⟩
      go_wp2
      go_ret
      exact ⟨ret_b HR.out.symm, below_after ((Below.refl w.heap.size w).alloc (Nat.le_refl _) _) hb1⟩
theorem runs_size (f : Nat → Bool) : (txt (runsL (runs f))).size ≤ 1200 := by
  have := runsL_le f (runs f).length
  rw [List.take_length] at this
  rw [txt_size]
  exact this
theorem txt_wrap (p t : List UInt8) : (⟨p.toArray⟩ : ByteArray) ++ txt t ++ ⟨#[93]⟩ = txt (p ++ (t ++ [93])) := by
  rw [show (⟨p.toArray⟩ : ByteArray) = txt p from rfl, show (⟨#[93]⟩ : ByteArray) = txt [93] from rfl, txt_add, txt_add, List.append_assoc]
set_option maxHeartbeats 2000000 in
set_option maxRecDepth 100000 in
theorem showSet_calls (f : Nat → Bool) (w : World) (ht : Tab w) : Calls Tryd.prog 9 #[(.agg #[.int .u64 (word (f) 0), .int .u64 (word (f) 1), .int .u64 (word (f) 2), .int .u64 (word (f) 3)])] w fun e w' => e = .returned (.string (txt (shSet f))) ∧ Below w.heap.size w w' := by
  have HC := hidden (count_nat f)
  have hA0 := SetAt.new w f
  have HA := hidden hA0
  have HB := hidden ((Below.refl w.heap.size w).alloc (Nat.le_refl _) (.cells #[.int .u64 (word (f) 0), .int .u64 (word (f) 1), .int .u64 (word (f) 2), .int .u64 (word (f) 3)] 25))
  have HT := hidden ht
  obtain ⟨T0, hT0⟩ : ∃ T, T = shSet f := ⟨_, rfl⟩
  rw [← hT0]
  by_cases h1 : (elems f).length = 1
  · obtain ⟨a, ha⟩ := List.length_eq_one_iff.1 h1
    have ha2 : a < 256 := by
      have : a ∈ elems f := by rw [ha]; simp
      unfold elems at this
      simpa using (List.mem_filter.1 this).1
    have hF := fun w h => first_calls f w h
    rw [show firstOf f = (a : Int) by unfold firstOf; rw [ha]] at hF
    have HF := hidden hF
    have HS := hidden (fun w => showChar_calls a RT w ha2)
    have HR := hidden (hT0.trans (shSet_one ha))
    have hw : IntKind.u8.wrap (a : Int) = a := by rw [IntKind.wrap_u8]; omega
    have hw' : (a : Int) % 256 = a := by omega
    rw [h1] at HC
    clear ht hA0 hT0 h1 ha hF
    go_enter Tryd.func9, Tryd.ntmps9
    go_wp2_with fail
    refine (HC.out _).mono ?_
    rintro e w1 ⟨rfl, hb1⟩
    obtain ⟨d0, d1, d2, d3, g0, g1, g2, g3⟩ := (HA.out.below hb1).facts
    have HB1 := hidden (below_after HB.out hb1)
    have HT1 := hidden (HT.out.below HB1.out)
    clear hb1
    go_wp2_with fail
    refine (HF.out _ HT1.out).mono ?_
    rintro e w2 ⟨rfl, hb2⟩
    have HB2 := hidden (below_after HB1.out hb2)
    clear hb2 d0 d1 d2 d3 g0 g1 g2 g3
    go_wp2_with fail
    refine (HS.out _).mono ?_
    rintro e w3 ⟨rfl, hb3⟩
    have HB3 := hidden (below_after HB2.out hb3)
    clear hb3
    go_wp2
    go_ret
    exact ⟨by rw [HR.out]; rfl, HB3.out⟩
  · have q1 : (((elems f).length : Int) == 1) = false := by simp; omega
    have hT1 : T0 = if sameSet f fDot = true then [46] else if others f = true then [91, 94] ++ (runsL (runs (fNot f)) ++ [93]) else [91] ++ (runsL (runs f) ++ [93]) := by
      rw [hT0]
      unfold shSet
      rw [if_neg h1]
    generalize (elems f).length = n at *
    have hq := fun w => eq_sets w f fDot
    have HD := hidden (fun w => dot_calls w)
    by_cases hs : sameSet f fDot = true
    · rw [hs] at hq
      rw [if_pos hs] at hT1
      have HR := hidden hT1
      clear ht hA0 hT0 h1 hs hT1
      go_enter Tryd.func9, Tryd.ntmps9
      go_wp2_with fail
      refine (HC.out _).mono ?_
      rintro e w1 ⟨rfl, hb1⟩
      have hA1 := HA.out.below hb1
      obtain ⟨d0, d1, d2, d3, g0, g1, g2, g3⟩ := hA1.facts
      have k0 := fun p : Later w1 => Later.cell d0 hA1.lt p
      have k1 := fun p : Later w1 => Later.cell d1 hA1.lt p
      have k2 := fun p : Later w1 => Later.cell d2 hA1.lt p
      have k3 := fun p : Later w1 => Later.cell d3 hA1.lt p
      have HB1 := hidden (below_after HB.out hb1)
      clear hb1 hA1
      go_wp2
      refine wp_region_later (by kernel_rfl) (by kernel_rfl) ?_
      repeat (go_big_quiet_step (exact Later.calls (HD.out _)))
      refine wpQuiet_nil ?_
      rintro _ ⟨⟨w2, hb2⟩, rfl⟩
      go_wp2
      go_ret
      exact ⟨by rw [HR.out]; rfl, below_after HB1.out hb2⟩
    · have hs' : sameSet f fDot = false := by simpa using hs
      rw [hs'] at hq
      rw [if_neg hs] at hT1
      have hO := others_calls f
      by_cases ho : others f = true
      · rw [if_pos ho] at hT1
        rw [ho] at hO
        have HO := hidden hO
        have HR := hidden hT1
        have HN := hidden (not_calls f)
        have HU := hidden (showRuns_calls (fNot f))
        have zl : (txt (runsL (runs (fNot f)))).size ≤ 1200 := runs_size (fNot f)
        have z1 : ¬ 9223372036854775807 < 2 + (txt (runsL (runs (fNot f)))).size := by omega
        have z2 : ¬ 9223372036854775807 < 2 + (txt (runsL (runs (fNot f)))).size + 1 := by omega
        clear ht hA0 hT0 h1 hs hs' hT1 ho hO
        go_enter Tryd.func9, Tryd.ntmps9
        go_wp2_with fail
        refine (HC.out _).mono ?_
        rintro e w1 ⟨rfl, hb1⟩
        have hA1 := HA.out.below hb1
        have HA1 := hidden hA1
        obtain ⟨d0, d1, d2, d3, g0, g1, g2, g3⟩ := hA1.facts
        have k0 := fun p : Later w1 => Later.cell d0 hA1.lt p
        have k1 := fun p : Later w1 => Later.cell d1 hA1.lt p
        have k2 := fun p : Later w1 => Later.cell d2 hA1.lt p
        have k3 := fun p : Later w1 => Later.cell d3 hA1.lt p
        have HB1 := hidden (below_after HB.out hb1)
        clear hb1 hA1
        go_wp2
        refine wp_region_later (by kernel_rfl) (by kernel_rfl) ?_
        repeat (go_big_quiet_step (exact Later.calls (HD.out _)))
        refine wpQuiet_nil ?_
        rintro _ ⟨⟨w2, hb2⟩, rfl⟩
        have HB2 := hidden (below_after HB1.out hb2)
        have hA2 := HA1.out.below hb2
        have HA2 := hidden hA2
        clear d0 d1 d2 d3 g0 g1 g2 g3 k0 k1 k2 k3 hb2
        obtain ⟨d0, d1, d2, d3, g0, g1, g2, g3⟩ := hA2.facts
        clear hA2
        go_wp2_with fail
        refine (HO.out _).mono ?_
        rintro e w3 ⟨rfl, hb3⟩
        have HB3 := hidden (below_after HB2.out hb3)
        have hA3 := HA2.out.below hb3
        clear d0 d1 d2 d3 g0 g1 g2 g3 hb3
        obtain ⟨d0, d1, d2, d3, g0, g1, g2, g3⟩ := hA3.facts
        clear hA3
        go_wp2_with fail
        refine (HN.out _).mono ?_
        rintro e w4 ⟨rfl, hb4⟩
        have HB4 := hidden (below_after HB3.out hb4)
        have HT4 := hidden (HT.out.below HB4.out)
        clear d0 d1 d2 d3 g0 g1 g2 g3 hb4
        go_wp2_with fail
        refine (HU.out _ HT4.out).mono ?_
        rintro e w5 ⟨rfl, hb5⟩
        have HB5 := hidden (below_after HB4.out hb5)
        clear hb5
        go_wp2
        go_ret
        exact ⟨by rw [HR.out, ← txt_wrap]; rfl, HB5.out⟩
      · have ho' : others f = false := by simpa using ho
        rw [if_neg ho] at hT1
        rw [ho'] at hO
        have HO := hidden hO
        have HR := hidden hT1
        have HU := hidden (showRuns_calls f)
        have zl : (txt (runsL (runs f))).size ≤ 1200 := runs_size f
        have z1 : ¬ 9223372036854775807 < 1 + (txt (runsL (runs f))).size := by omega
        have z2 : ¬ 9223372036854775807 < 1 + (txt (runsL (runs f))).size + 1 := by omega
        clear ht hA0 hT0 h1 hs hs' hT1 ho hO ho'
        go_enter Tryd.func9, Tryd.ntmps9
        go_wp2_with fail
        refine (HC.out _).mono ?_
        rintro e w1 ⟨rfl, hb1⟩
        have hA1 := HA.out.below hb1
        have HA1 := hidden hA1
        obtain ⟨d0, d1, d2, d3, g0, g1, g2, g3⟩ := hA1.facts
        have k0 := fun p : Later w1 => Later.cell d0 hA1.lt p
        have k1 := fun p : Later w1 => Later.cell d1 hA1.lt p
        have k2 := fun p : Later w1 => Later.cell d2 hA1.lt p
        have k3 := fun p : Later w1 => Later.cell d3 hA1.lt p
        have HB1 := hidden (below_after HB.out hb1)
        clear hb1 hA1
        go_wp2
        refine wp_region_later (by kernel_rfl) (by kernel_rfl) ?_
        repeat (go_big_quiet_step (exact Later.calls (HD.out _)))
        refine wpQuiet_nil ?_
        rintro _ ⟨⟨w2, hb2⟩, rfl⟩
        have HB2 := hidden (below_after HB1.out hb2)
        have hA2 := HA1.out.below hb2
        have HA2 := hidden hA2
        clear d0 d1 d2 d3 g0 g1 g2 g3 k0 k1 k2 k3 hb2
        obtain ⟨d0, d1, d2, d3, g0, g1, g2, g3⟩ := hA2.facts
        clear hA2
        go_wp2_with fail
        refine (HO.out _).mono ?_
        rintro e w3 ⟨rfl, hb3⟩
        have HB3 := hidden (below_after HB2.out hb3)
        have hA3 := HA2.out.below hb3
        clear d0 d1 d2 d3 g0 g1 g2 g3 hb3
        obtain ⟨d0, d1, d2, d3, g0, g1, g2, g3⟩ := hA3.facts
        clear hA3
        have HT4 := hidden (HT.out.below HB3.out)
        go_wp2_with fail
        refine (HU.out _ HT4.out).mono ?_
        rintro e w5 ⟨rfl, hb5⟩
        have HB5 := hidden (below_after HB3.out hb5)
        clear hb5
        go_wp2
        go_ret
        exact ⟨by rw [HR.out, ← txt_wrap]; rfl, HB5.out⟩
end Go.Proofs.YthiiinbkkjacbaaDoor

/- Contract of within: a part's text, in parentheses if its kind is one of a slice's. And rows of parts. -/
namespace Go.Proofs.YthiiinbkkjacbaaDoor
open Go.RowKit Go.Lib Go.Joins

/-- a slice of kinds: 4 alone, or 4 and 3 -/
def KS1 (v : Value) (w : World) : Prop := ∃ b, v = .slice (some ⟨b, 0, none⟩) 1 1 ∧ b < w.heap.size ∧ w.cell? ⟨b, 0, none⟩ = some (.int .i64 4)
def KS2 (v : Value) (w : World) : Prop := ∃ b, v = .slice (some ⟨b, 0, none⟩) 2 2 ∧ b < w.heap.size ∧ w.cell? ⟨b, 0, none⟩ = some (.int .i64 4) ∧ w.cell? ⟨b, 1, none⟩ = some (.int .i64 3)
theorem ks1_mono : ∀ v w w', KS1 v w → Below w.heap.size w w' → KS1 v w' := fun _ _ _ ⟨b, h1, h2, h3⟩ hb => ⟨b, h1, Nat.lt_of_lt_of_le h2 hb.size, (hb.cell (p := ⟨b, 0, none⟩) h2).trans h3⟩
theorem ks2_mono : ∀ v w w', KS2 v w → Below w.heap.size w w' → KS2 v w' := fun _ _ _ ⟨b, h1, h2, h3, h4⟩ hb => ⟨b, h1, Nat.lt_of_lt_of_le h2 hb.size, (hb.cell (p := ⟨b, 0, none⟩) h2).trans h3, (hb.cell (p := ⟨b, 1, none⟩) h2).trans h4⟩
theorem ks1_new (w : World) : KS1 (.slice (some ⟨w.heap.size, 0, none⟩) 1 1) (w.alloc (.cells #[.int .i64 4] 37)) := by
  have h := heap_alloc_new w (.cells #[.int .i64 4] 37)
  exact ⟨_, rfl, by simp, cell_of_row _ _ 0 _ _ _ h⟩
theorem ks2_new (w : World) : KS2 (.slice (some ⟨w.heap.size, 0, none⟩) 2 2) (w.alloc (.cells #[.int .i64 4, .int .i64 3] 37)) := by
  have h := heap_alloc_new w (.cells #[.int .i64 4, .int .i64 3] 37)
  exact ⟨_, rfl, by simp, cell_of_row _ _ 0 _ _ _ h, cell_of_row _ _ 1 _ _ _ h⟩
theorem txt_par (t : List UInt8) : (⟨#[40]⟩ : ByteArray) ++ txt t ++ ⟨#[41]⟩ = txt (par true t) := by
  rw [show (⟨#[40]⟩ : ByteArray) = txt [40] from rfl, show (⟨#[41]⟩ : ByteArray) = txt [41] from rfl, txt_add, txt_add]
  rfl
set_option maxHeartbeats 2000000 in
set_option maxRecDepth 100000 in
theorem within_one {v : Value} {w : World} (h : KS1 v w) (t : List UInt8) (k : Int) (ht : t.length ≤ 1000000000) :
    Calls Tryd.prog 32 #[.agg #[.string (txt t), .int .i64 k], v] w fun e w' => e = .returned (.string (txt (par (isAlt k) t))) ∧ Below w.heap.size w w' := by
  obtain ⟨b, rfl, hlt, c0⟩ := h
  have z0 : (txt t).size ≤ 1000000000 := ht
  have z1 : ¬ 9223372036854775807 < 1 + (txt t).size := by omega
  have z2 : ¬ 9223372036854775807 < 1 + (txt t).size + 1 := by omega
  cases hk : k == 4
  · have HR := hidden (show par (isAlt k) t = t by unfold isAlt par; rw [hk]; rfl)
    go_enter Tryd.func32, Tryd.ntmps32
    go_wp2
    refine wp_loop_rounds 2 ?_
    iterate 2
      try rw [rounds_succ]
      try go_wp2
    go_ret
    exact ⟨by rw [HR.out]; rfl, by go_grown⟩
  · have HR := hidden (show txt (par (isAlt k) t) = (⟨#[40]⟩ : ByteArray) ++ txt t ++ ⟨#[41]⟩ by unfold isAlt; rw [hk, txt_par])
    go_enter Tryd.func32, Tryd.ntmps32
    go_wp2
    refine wp_loop_rounds 2 ?_
    iterate 2
      try rw [rounds_succ]
      try go_wp2
    go_ret
    exact ⟨by rw [HR.out]; rfl, by go_grown⟩
set_option maxHeartbeats 2000000 in
set_option maxRecDepth 100000 in
theorem within_two {v : Value} {w : World} (h : KS2 v w) (t : List UInt8) (k : Int) (ht : t.length ≤ 1000000000) :
    Calls Tryd.prog 32 #[.agg #[.string (txt t), .int .i64 k], v] w fun e w' => e = .returned (.string (txt (par (isTwo k) t))) ∧ Below w.heap.size w w' := by
  obtain ⟨b, rfl, hlt, c0, c1⟩ := h
  have z0 : (txt t).size ≤ 1000000000 := ht
  have z1 : ¬ 9223372036854775807 < 1 + (txt t).size := by omega
  have z2 : ¬ 9223372036854775807 < 1 + (txt t).size + 1 := by omega
  cases hk : k == 4
  · cases hk3 : k == 3
    · have HR := hidden (show par (isTwo k) t = t by unfold isTwo par; rw [hk, hk3]; rfl)
      go_enter Tryd.func32, Tryd.ntmps32
      go_wp2
      refine wp_loop_rounds 3 ?_
      iterate 3
        try rw [rounds_succ]
        try go_wp2
      go_ret
      exact ⟨by rw [HR.out]; rfl, by go_grown⟩
    · have HR := hidden (show txt (par (isTwo k) t) = (⟨#[40]⟩ : ByteArray) ++ txt t ++ ⟨#[41]⟩ by unfold isTwo; rw [hk, hk3, Bool.false_or, txt_par])
      go_enter Tryd.func32, Tryd.ntmps32
      go_wp2
      refine wp_loop_rounds 3 ?_
      iterate 3
        try rw [rounds_succ]
        try go_wp2
      go_ret
      exact ⟨by rw [HR.out]; rfl, by go_grown⟩
  · have HR := hidden (show txt (par (isTwo k) t) = (⟨#[40]⟩ : ByteArray) ++ txt t ++ ⟨#[41]⟩ by unfold isTwo; rw [hk, Bool.true_or, txt_par])
    go_enter Tryd.func32, Tryd.ntmps32
    go_wp2
    refine wp_loop_rounds 3 ?_
    iterate 3
      try rw [rounds_succ]
      try go_wp2
    go_ret
    exact ⟨by rw [HR.out]; rfl, by go_grown⟩
end Go.Proofs.YthiiinbkkjacbaaDoor

/- Rows of parts: their texts and kinds. -/
namespace Go.Proofs.YthiiinbkkjacbaaDoor
open Go.RowKit Go.Lib Go.Joins

def shCells (es : List Ex) : List Value := es.flatMap fun e => [.string (txt (showE e)), .int .i64 e.kind]
theorem shCells_len : ∀ es, (shCells es).length = es.length * 2
  | [] => rfl
  | e :: r => by
    have := shCells_len r
    unfold shCells at this ⊢
    rw [List.flatMap_cons, List.length_append, this]
    simp only [List.length_cons, List.length_nil]
    omega
theorem shCells_append (a b : List Ex) : shCells (a ++ b) = shCells a ++ shCells b := by simp [shCells]
theorem shCells_one (e : Ex) : shCells [e] = [.string (txt (showE e)), .int .i64 e.kind] := rfl
theorem shCells_get (r z : List Ex) (e : Ex) : (shCells (r ++ e :: z))[r.length * 2]? = some (.string (txt (showE e))) ∧ (shCells (r ++ e :: z))[r.length * 2 + 1]? = some (.int .i64 e.kind) := by
  have h := shCells_len r
  rw [shCells_append]
  constructor
  · rw [List.getElem?_append_right (by omega), h, Nat.sub_self]
    simp [shCells]
  · rw [List.getElem?_append_right (by omega), h, show r.length * 2 + 1 - r.length * 2 = 1 by omega]
    simp [shCells]
theorem infoShown : (Tryd.prog.info? 43).map (fun i => (i.zero, i.size, i.bytes)) = some (some (.agg #[.string ⟨#[]⟩, .int .i64 0]), 2, 24) := by kernel_rfl
/-- a row of parts of the call's own -/
def RowS (w : World) (base : Nat) (v : Value) (es : List Ex) : Prop := w.ownsRow base 43 2 v es.length (shCells es)
theorem RowS.nil (w : World) (base : Nat) : RowS w base (.slice none 0 0) [] := World.ownsRow_nil _ _ _ _
theorem RowS.below {w w' : World} {base : Nat} {v : Value} {es : List Ex} (h : RowS w base v es) (hb : Below w.heap.size w w') : RowS w' base v es := by
  obtain ⟨hl, h2⟩ := h
  refine ⟨hl, h2.imp id ?_⟩
  rintro ⟨g, cap, cur, h3, h4, h5, h6⟩
  exact ⟨g, cap, cur, h3, h4, (hb.block g (Array.getElem?_eq_some_iff.1 h5).1).trans h5, h6⟩
theorem RowS.form {w : World} {base : Nat} {v : Value} {es : List Ex} (h : RowS w base v es) : ∃ a c, v = .slice a es.length c := by
  rcases h.2 with ⟨rfl, h0⟩ | ⟨g, cap, cur, rfl, _⟩
  · rw [h0]
    exact ⟨_, _, rfl⟩
  · exact ⟨_, _, rfl⟩
/-- the cells of a part -/
theorem RowS.part {w : World} {base : Nat} {v : Value} {r z : List Ex} {e : Ex} (h : RowS w base v (r ++ e :: z)) :
    ∃ g cap, v = .slice (some ⟨g, 0, none⟩) (r ++ e :: z).length cap ∧ g < w.heap.size ∧ w.cell? ⟨g, r.length * 2, none⟩ = some (.string (txt (showE e))) ∧ w.cell? ⟨g, r.length * 2 + 1, none⟩ = some (.int .i64 e.kind) ∧ (r ++ e :: z).length ≤ cap ∧ cap ≤ maxLen := by
  rcases h.2 with ⟨_, h0⟩ | ⟨g, cap, cur, rfl, hb, hh, hn, hm, hs, ht⟩
  · simp at h0
  · have hlt := (Array.getElem?_eq_some_iff.1 hh).1
    obtain ⟨g0, g1⟩ := shCells_get r z e
    rw [← ht, List.getElem?_take, if_pos (by simp only [List.length_append, List.length_cons]; omega)] at g0 g1
    refine ⟨g, cap, rfl, hlt, ?_, ?_, hn, hm⟩
    · rw [cell_of_row w g _ _ _ _ hh]
      simpa using g0
    · rw [cell_of_row w g _ _ _ _ hh]
      simpa using g1
/-- fewer parts -/
theorem RowS.fewer {w : World} {base : Nat} {a : Option Addr} {n cap : Nat} {r z : List Ex} (h : RowS w base (.slice a n cap) (r ++ z)) : RowS w base (.slice a r.length cap) r := by
  obtain ⟨hl, h2⟩ := h
  refine ⟨shCells_len r, ?_⟩
  rcases h2 with ⟨h3, h0⟩ | ⟨g, cap', cur, h3, hb, hh, hn, hm, hs, ht⟩
  · simp only [Value.slice.injEq] at h3
    have : r.length = 0 := by
      rw [List.length_append] at h0
      omega
    exact .inl ⟨by rw [h3.1, h3.2.2, this], this⟩
  · simp only [Value.slice.injEq] at h3
    obtain ⟨rfl, _, rfl⟩ := h3
    rw [List.length_append] at hn
    refine .inr ⟨g, cap, cur, rfl, hb, hh, by omega, hm, hs, ?_⟩
    have e : cur.toList.take (r.length * 2) = (cur.toList.take ((r ++ z).length * 2)).take (r.length * 2) := by
      rw [List.take_take, Nat.min_eq_left (by rw [List.length_append]; omega)]
    rw [e, ht, shCells_append, List.take_append_of_le_length (by rw [shCells_len]; exact Nat.le_refl _), List.take_of_length_le (by rw [shCells_len]; exact Nat.le_refl _)]
/-- one more -/
theorem RowS.more {w : World} {base : Nat} {v : Value} {r : List Ex} {e : Ex} (h : w.ownsRow base 43 2 v (r.length + 1) (shCells r ++ [.string (txt (showE e)), .int .i64 e.kind])) : RowS w base v (r ++ [e]) := by
  unfold RowS
  rw [shCells_append, List.length_append, shCells_one]
  exact h
theorem show_cells1 {t : ByteArray} {k : Int} {u : Value} (h : u ∈ [Value.string t, .int .i64 k]) : u.oneCell' = true := by
  simp only [List.mem_cons, List.not_mem_nil, or_false] at h
  rcases h with rfl | rfl <;> rfl
/-- what showStep hands back -/
def RetS (base : Nat) (es : List Ex) (w : World) (e : Ending) (w' : World) : Prop := ∃ v, e = .returned v ∧ RowS w' base v es ∧ Below base w w'
/-- what the last append of showStep wants -/
theorem row_tail {w : World} {base n cap : Nat} {a : Option Addr} {r : List Ex} (h : RowS w base (.slice a n cap) r) (hn : n = r.length) (hb : base ≤ w.heap.size) :
    (∀ W, Below w.heap.size w W → W.ownsRow base 43 2 (.slice a n cap) n (shCells r)) ∧ (∀ X w5, Below w.heap.size w X → X.grownBy w5 (Value.slice a n cap).ownBlock → Below base w w5) ∧ (∀ X, Below w.heap.size w X → base ≤ X.heap.size) := by
  subst hn
  refine ⟨fun W hW => h.below hW, fun X w5 hX hg => ?_, fun X hX => Nat.le_trans hb hX.size⟩
  refine (hX.mono hb).grown hg (Nat.le_trans hb hX.size) fun k hk => ?_
  rcases h.2 with ⟨h3, h0⟩ | ⟨g, cap', cur, h3, hg2, _⟩
  · simp only [Value.slice.injEq] at h3
    rw [h3.1] at hk
    simp [Value.ownBlock] at hk
  · simp only [Value.slice.injEq] at h3
    rw [h3.1] at hk
    simp only [Value.ownBlock, Option.some.injEq] at hk
    omega
theorem news_new {w : World} {l : List Value} {t : TypeId} {b : Nat} (hb : b = w.heap.size) : ∀ j u, l[j]? = some u → (w.alloc (.cells l.toArray t)).cell? ((⟨b, 0, none⟩ : Addr).add j) = some u := by
  subst hb
  exact World.news_of_block (heap_alloc_new w _)
theorem RowS.addr {w : World} {base : Nat} {v : Value} {es : List Ex} (h : RowS w base v es) : (v = .slice none 0 0 ∧ es = []) ∨ ∃ g cap, v = .slice (some ⟨g, 0, none⟩) es.length cap ∧ es.length ≤ cap ∧ cap ≤ maxLen := by
  rcases h.2 with ⟨h3, h0⟩ | ⟨g, cap', cur, h3, _, _, h4, h5, _⟩
  · exact .inl ⟨h3, List.eq_nil_of_length_eq_zero h0⟩
  · exact .inr ⟨g, cap', h3, h4, h5⟩
theorem RowS.more2 {w : World} {base n : Nat} {v : Value} {r : List Ex} {e : Ex} {te : List UInt8} {k : Int} (h : w.ownsRow base 43 2 v (n + 1) (shCells r ++ [.string (txt te), .int .i64 k])) (hn : n = r.length) (ht : te = showE e) (hk : k = e.kind) : RowS w base v (r ++ [e]) := by
  subst hn ht hk
  exact RowS.more h
theorem RowS.one {w : World} {base : Nat} {v : Value} {r : List Ex} {a : Ex} (h : RowS w base v (r ++ [a])) :
    ∃ g cap, v = .slice (some ⟨g, 0, none⟩) (r.length + 1) cap ∧ g < w.heap.size ∧ (w.cell? ⟨g, r.length * 2, none⟩ = some (.string (txt (showE a))) ∧ w.cell? ⟨g, r.length * 2 + 1, none⟩ = some (.int .i64 a.kind)) ∧ r.length + 1 ≤ cap ∧ cap ≤ maxLen ∧ RowS w base (.slice (some ⟨g, 0, none⟩) r.length cap) r := by
  obtain ⟨g, cap, rfl, h1, h2, h3, h4, h5⟩ := h.part
  rw [List.length_append] at h4
  exact ⟨g, cap, by rw [List.length_append]; rfl, h1, ⟨h2, h3⟩, h4, h5, h.fewer⟩
theorem RowS.two {w : World} {base : Nat} {v : Value} {r : List Ex} {a b : Ex} (h : RowS w base v (r ++ [a, b])) :
    ∃ g cap, v = .slice (some ⟨g, 0, none⟩) (r.length + 2) cap ∧ g < w.heap.size ∧ (w.cell? ⟨g, r.length * 2, none⟩ = some (.string (txt (showE a))) ∧ w.cell? ⟨g, r.length * 2 + 1, none⟩ = some (.int .i64 a.kind)) ∧
      (w.cell? ⟨g, (r.length + 1) * 2, none⟩ = some (.string (txt (showE b))) ∧ w.cell? ⟨g, (r.length + 1) * 2 + 1, none⟩ = some (.int .i64 b.kind)) ∧ r.length + 2 ≤ cap ∧ cap ≤ maxLen ∧ RowS w base (.slice (some ⟨g, 0, none⟩) r.length cap) r := by
  have h' := h
  rw [show r ++ [a, b] = (r ++ [a]) ++ [b] by simp] at h'
  obtain ⟨g', cap', e', _, h2', h3', _⟩ := h'.part
  obtain ⟨g, cap, rfl, h1, h2, h3, h4, h5⟩ := h.part
  simp only [Value.slice.injEq, Option.some.injEq, Addr.mk.injEq, and_true] at e'
  obtain ⟨rfl, _⟩ := e'
  rw [List.length_append] at h4
  rw [List.length_append] at h2' h3'
  exact ⟨g, cap, by rw [List.length_append]; rfl, h1, ⟨h2, h3⟩, ⟨h2', h3'⟩, h4, h5, h.fewer⟩
theorem arr_split (t : Array Value) : t = ((List.range t.size).map fun i => t.getD i undef).toArray := by
  apply Array.ext
  · simp
  · intro i h1 h2
    simp [h1]
theorem arr75 {t : Array Value} (h : t.size = 75) : t = #[t.getD 0 undef, t.getD 1 undef, t.getD 2 undef, t.getD 3 undef, t.getD 4 undef, t.getD 5 undef, t.getD 6 undef, t.getD 7 undef, t.getD 8 undef, t.getD 9 undef, t.getD 10 undef, t.getD 11 undef, t.getD 12 undef, t.getD 13 undef, t.getD 14 undef, t.getD 15 undef, t.getD 16 undef, t.getD 17 undef, t.getD 18 undef, t.getD 19 undef, t.getD 20 undef, t.getD 21 undef, t.getD 22 undef, t.getD 23 undef, t.getD 24 undef, t.getD 25 undef, t.getD 26 undef, t.getD 27 undef, t.getD 28 undef, t.getD 29 undef, t.getD 30 undef, t.getD 31 undef, t.getD 32 undef, t.getD 33 undef, t.getD 34 undef, t.getD 35 undef, t.getD 36 undef, t.getD 37 undef, t.getD 38 undef, t.getD 39 undef, t.getD 40 undef, t.getD 41 undef, t.getD 42 undef, t.getD 43 undef, t.getD 44 undef, t.getD 45 undef, t.getD 46 undef, t.getD 47 undef, t.getD 48 undef, t.getD 49 undef, t.getD 50 undef, t.getD 51 undef, t.getD 52 undef, t.getD 53 undef, t.getD 54 undef, t.getD 55 undef, t.getD 56 undef, t.getD 57 undef, t.getD 58 undef, t.getD 59 undef, t.getD 60 undef, t.getD 61 undef, t.getD 62 undef, t.getD 63 undef, t.getD 64 undef, t.getD 65 undef, t.getD 66 undef, t.getD 67 undef, t.getD 68 undef, t.getD 69 undef, t.getD 70 undef, t.getD 71 undef, t.getD 72 undef, t.getD 73 undef, t.getD 74 undef] := (arr_split t).trans (by rw [h]; rfl)
end Go.Proofs.YthiiinbkkjacbaaDoor
