/- TxtSetP, TxtSteps, TxtRoom, TxtRun, put together. -/
import Derived.Test.YthiiinbkkjacbaaDoorRt10
import Derived.Test.YthiiinbkkjacbaaDoorRt09
import Derived.RangeFuncBox
import Derived.RangeFuncNested
import Derived.WalkMore
import Derived.Deep.LoopGhost
/- Contract: a dot, a class or a character read as a set (readClass, readSet). -/
namespace Go.Proofs.YthiiinbkkjacbaaDoor
open Go.RowKit

/-- what a set that was read at a place is told as -/
def RetSt (k : Nat) (r : (Nat → Bool) × Nat × Bool) (e : Ending) : Prop := ∃ g, e = .returned (.tuple #[(.agg #[.int .u64 (word (g) 0), .int .u64 (word (g) 1), .int .u64 (word (g) 2), .int .u64 (word (g) 3)]), .int .i64 ((k + r.2.1 : Nat) : Int), .bool r.2.2]) ∧ (r.2.2 = true → g = r.1)
theorem class_calls (s : ByteArray) (k : Nat) (w : World) (hk : k ≤ s.size) (hs : s.size ≤ 1000000000) :
    Calls Tryd.prog 74 #[.string s, .int .i64 k] w fun e w' => RetSt k (rdClass (s.data.toList.drop k)) e ∧ Below w.heap.size w w' := by
  have hl : (s.data.toList.drop k).length = s.size - k := by simp
  by_cases c : stands (s.data.toList.drop k) 94 = true
  · have hr : Rest s (k + 1) fNone (s.data.toList.drop k).length (((rdItems (s.data.toList.drop k).length (s.data.toList.drop (k + 1)) fNone).1, k + 1 + (rdItems (s.data.toList.drop k).length (s.data.toList.drop (k + 1)) fNone).2.1, (rdItems (s.data.toList.drop k).length (s.data.toList.drop (k + 1)) fNone).2.2)) := ⟨by omega, rfl⟩
    refine (class_core s k w hk hs true c.symm (k + 1) rfl _ _ hr).mono ?_
    rintro e w' ⟨⟨g, he, hg⟩, hb⟩
    refine ⟨⟨g, ?_, ?_⟩, hb⟩
    · rw [he]
      unfold rdClass
      rw [if_pos c, List.drop_drop]
      generalize rdItems (s.data.toList.drop k).length (s.data.toList.drop (k + 1)) fNone = x at *
      obtain ⟨a, b, o⟩ := x
      cases o
      · simp only [Bool.false_eq_true, if_false, if_true, Nat.add_assoc]
      · simp only [if_true, Bool.true_eq_false, if_false]
        rw [show k + 1 + b + 1 = k + (1 + b + 1) by omega]
    · unfold rdClass
      rw [if_pos c, List.drop_drop]
      generalize rdItems (s.data.toList.drop k).length (s.data.toList.drop (k + 1)) fNone = x at *
      obtain ⟨a, b, o⟩ := x
      cases o
      · intro h
        simp at h
      · intro _
        simpa using hg rfl
  · have c' : stands (s.data.toList.drop k) 94 = false := by simpa using c
    have hr : Rest s k fNone ((s.data.toList.drop k).length + 1) (((rdItems ((s.data.toList.drop k).length + 1) (s.data.toList.drop k) fNone).1, k + (rdItems ((s.data.toList.drop k).length + 1) (s.data.toList.drop k) fNone).2.1, (rdItems ((s.data.toList.drop k).length + 1) (s.data.toList.drop k) fNone).2.2)) := ⟨by omega, rfl⟩
    refine (class_core s k w hk hs false c'.symm k rfl _ _ hr).mono ?_
    rintro e w' ⟨⟨g, he, hg⟩, hb⟩
    refine ⟨⟨g, ?_, ?_⟩, hb⟩
    · rw [he]
      unfold rdClass
      rw [if_neg c]
      generalize rdItems ((s.data.toList.drop k).length + 1) (s.data.toList.drop k) fNone = x at *
      obtain ⟨a, b, o⟩ := x
      cases o
      · simp only [Bool.false_eq_true, if_false, if_true]
      · simp only [if_true, Bool.true_eq_false, if_false, Nat.add_assoc]
    · unfold rdClass
      rw [if_neg c]
      generalize rdItems ((s.data.toList.drop k).length + 1) (s.data.toList.drop k) fNone = x at *
      obtain ⟨a, b, o⟩ := x
      cases o
      · intro h
        simp at h
      · intro _
        simpa using hg rfl
theorem retSt_eq {k p : Nat} {r : (Nat → Bool) × Nat × Bool} {g : Nat → Bool} {o : Bool} (h1 : k + r.2.1 = p) (h2 : r.2.2 = o) (h3 : o = true → g = r.1) : RetSt k r (.returned (.tuple #[(.agg #[.int .u64 (word (g) 0), .int .u64 (word (g) 1), .int .u64 (word (g) 2), .int .u64 (word (g) 3)]), .int .i64 (p : Int), .bool o])) := by
  subst h1 h2
  exact ⟨g, rfl, h3⟩
set_option maxHeartbeats 4000000 in
set_option maxRecDepth 100000 in
theorem set_calls (s : ByteArray) (k : Nat) (w : World) (hk : k < s.size) (hs : s.size ≤ 1000000000) :
    Calls Tryd.prog 62 #[.string s, .int .i64 k] w fun e w' => RetSt k (rdSet (s.data.toList.drop k)) e ∧ Below w.heap.size w w' := by
  match hl : s.data.toList.drop k with
  | [] =>
    have h0 := drop_nil hl
    omega
  | c :: r =>
    obtain ⟨h1, h2, h3⟩ := drop_at hl
    obtain ⟨hp, hx⟩ := num_at h1
    have hE : rdSet (c :: r) = if c = 46 then (fDot, 1, true) else if c = 91 then ((rdClass r).1, (rdClass r).2.1 + 1, (rdClass r).2.2)
        else (fOne (rdChar RT (c :: r)).1, (rdChar RT (c :: r)).2.1, (rdChar RT (c :: r)).2.2) := rfl
    by_cases c1 : c = 46
    · rw [if_pos c1] at hE
      subst c1
      have HE := hidden hE
      have HD := hidden dot_calls
      clear hl h1 h2 h3 hE
      go_enter Tryd.func62, Tryd.ntmps62
      go_wp2_with fail
      refine (HD.out _).mono ?_
      rintro e w1 ⟨rfl, hb1⟩
      have HA := hidden ((SetAt.newNone w _ rfl).below hb1)
      have HB := hidden (below_after ((Below.refl w.heap.size w).alloc (Nat.le_refl _) _) hb1)
      obtain ⟨d0, d1, d2, d3, g0, g1, g2, g3⟩ := HA.out.facts
      clear hb1
      go_wp2
      refine ret_set3 Tryd.results62 rfl rfl rfl rfl HA.out.stored (fun n hn => rfl) ⟨retSt_eq (p := k + 1) (by rw [HE.out]) (by rw [HE.out]) (fun _ => by rw [HE.out]), below_cells HB.out _ (by omega) _ _ _ _⟩
    · rw [if_neg c1] at hE
      have q1 : ((c.toNat : Int) == 46) = false := toNat_ne (d := 46) c1
      by_cases c2 : c = 91
      · rw [if_pos c2] at hE
        subst c2
        have hX := fun w => class_calls s (k + 1) w (by omega) hs
        rw [h2] at hX
        have HX := hidden hX
        have HE := hidden hE
        clear hl h1 h2 h3 hE hX c1
        go_enter Tryd.func62, Tryd.ntmps62
        go_wp2_with fail
        refine (HX.out _).mono ?_
        rintro e w1 ⟨⟨g, rfl, hg⟩, hb1⟩
        have HA := hidden ((SetAt.newNone w _ rfl).below hb1)
        have HB := hidden (below_after ((Below.refl w.heap.size w).alloc (Nat.le_refl _) _) hb1)
        have HG := hidden hg
        obtain ⟨d0, d1, d2, d3, g0, g1, g2, g3⟩ := HA.out.facts
        clear hb1 hg
        go_wp2
        refine ret_set3 Tryd.results62 rfl rfl rfl rfl HA.out.stored (fun n hn => rfl) ⟨retSt_eq (p := k + 1 + (rdClass r).2.1) (by rw [HE.out]; simp only; omega) (by rw [HE.out]) (fun h => by rw [HE.out]; exact HG.out h), below_cells HB.out _ (by omega) _ _ _ _⟩
      · rw [if_neg c2] at hE
        have q2 : ((c.toNat : Int) == 91) = false := toNat_ne (d := 91) c2
        have hX := fun w => readChar_calls s k RT w (by omega) hs
        rw [hl] at hX
        have hf := (rdChar_fit RT (c :: r)).2.1
        obtain ⟨⟨a, m, o⟩, hA⟩ : ∃ A, A = rdChar RT (c :: r) := ⟨_, rfl⟩
        rw [← hA] at hX hE hf
        have HX := hidden hX
        have HE := hidden hE
        simp only at HX HE hf
        clear hl h1 h2 h3 hE hX c1 c2 hA
        cases o
        · go_enter Tryd.func62, Tryd.ntmps62
          go_wp2_with fail
          refine (HX.out _).mono ?_
          rintro e w1 ⟨rfl, hb1⟩
          have HA := hidden ((SetAt.newNone w _ rfl).below hb1)
          have HB := hidden (below_after ((Below.refl w.heap.size w).alloc (Nat.le_refl _) _) hb1)
          obtain ⟨d0, d1, d2, d3, g0, g1, g2, g3⟩ := HA.out.facts
          clear hb1
          go_wp2
          refine ret_set3 Tryd.results62 rfl rfl rfl rfl HA.out.storedNone (fun n hn => rfl) ⟨retSt_eq (p := k + m) (by rw [HE.out]) (by rw [HE.out]) (fun h => by cases h), below_cells HB.out _ (by omega) _ _ _ _⟩
        · go_enter Tryd.func62, Tryd.ntmps62
          go_wp2_with fail
          refine (HX.out _).mono ?_
          rintro e w1 ⟨rfl, hb1⟩
          go_wp2_with fail
          refine (one_nat a _ hf).mono ?_
          rintro e w2 ⟨rfl, hb2⟩
          have HA := hidden (((SetAt.newNone w _ rfl).below hb1).below hb2)
          have HB := hidden (below_after (below_after ((Below.refl w.heap.size w).alloc (Nat.le_refl _) _) hb1) hb2)
          obtain ⟨d0, d1, d2, d3, g0, g1, g2, g3⟩ := HA.out.facts
          clear hb1 hb2
          go_wp2
          refine ret_set3 Tryd.results62 rfl rfl rfl rfl HA.out.stored (fun n hn => rfl) ⟨retSt_eq (p := k + m) (by rw [HE.out]) (by rw [HE.out]) (fun h => by rw [HE.out]), below_cells HB.out _ (by omega) _ _ _ _⟩
end Go.Proofs.YthiiinbkkjacbaaDoor

/- Contracts of readSteps: its closure, its first steps, its loop. -/
namespace Go.Proofs.YthiiinbkkjacbaaDoor
open Go.RowKit Go.Lib Go.Joins

/-- the builder, and the place behind it -/
def St (w : World) (R b : Nat) (x : Bld) (k : Int) (W : World) : Prop := (∃ v, BldAt W R b x v) ∧ Boxed W (b + 1) 3 (.int .i64 k) ∧ Below R w W
theorem St.below {w W W' : World} {R b : Nat} {x : Bld} {k : Int} (h : St w R b x k W) (hb : Below W.heap.size W W') : St w R b x k W' := by
  obtain ⟨⟨v, h1⟩, h2, h3⟩ := h
  exact ⟨⟨v, h1.below hb⟩, (hb.block _ h2.lt).trans h2, below_then h3 (by have := h1.low; have := h1.ne; omega) hb⟩
theorem St.turn {w W W' : World} {R b : Nat} {x y : Bld} {k : Int} (h : St w R b x k W) (ht : Turn R b W y W') : St w R b y k W' := by
  obtain ⟨⟨v, h1⟩, h2, h3⟩ := h
  exact ⟨ht.1, (ht.2.block (b + 1) ⟨h2.lt, by have := h1.ne; omega, by omega, .inl (by omega)⟩).trans h2, h3.trans (ht.2.below (Nat.le_refl _) (by have := h1.ne; omega) (by have := h1.low; omega))⟩
theorem St.keep {w W W' : World} {R b : Nat} {x : Bld} {k : Int} (h : St w R b x k W) (ht : Keep R b W W') : Below R w W' := by
  obtain ⟨⟨v, h1⟩, h2, h3⟩ := h
  exact h3.trans (ht.below (Nat.le_refl _) (by have := h1.ne; omega) (by have := h1.low; omega))
/-- the place is laid -/
theorem St.place {w W : World} {R b : Nat} {x : Bld} {k : Int} (h : St w R b x k W) (n : Int) : St w R b x n (W.setCell ⟨b + 1, 0, none⟩ (.int .i64 n)) := by
  obtain ⟨⟨v, h1⟩, h2, h3⟩ := h
  obtain ⟨cur, a1, a2, a3⟩ := h1.arr
  have hne := h1.ne
  refine ⟨⟨v, ⟨by rw [heap_setCell_other _ _ _ _ (show b ≠ b + 1 by omega)]; exact h1.blk, rowX_set h1.own (by omega) _, ⟨cur, by rw [heap_setCell_other _ _ _ _ (show R ≠ b + 1 by omega)]; exact a1, a2, a3⟩, h1.ne, by rw [size_set]; exact h1.low, h1.le⟩⟩, h2.set _, h3.setCell (p := ⟨b + 1, 0, none⟩) (by simp; omega) _⟩
theorem bld_eta (x : Bld) : (⟨x.st, x.wt, x.hp⟩ : Bld) = x := rfl
set_option maxHeartbeats 2000000 in
set_option maxRecDepth 100000 in
/-- the closure of readSteps -/
theorem atom_calls {w W : World} {R b : Nat} {x : Bld} {k : Int} (h : St w R b x k W) (f : Nat → Bool) (n : Int) (hl : x.st.length < 700000) (hw : x.hp = true → x.wt.length < 4096) :
    Calls Tryd.prog 54 #[(.agg #[.int .u64 (word (f) 0), .int .u64 (word (f) 1), .int .u64 (word (f) 2), .int .u64 (word (f) 3)]), .int .i64 n, .pointer (some ⟨b, 0, none⟩), .pointer (some ⟨b + 1, 0, none⟩)] W fun e w' => e = .returned (.tuple #[]) ∧ St w R b (bAtom x (sStp f)) n w' := by
  have hA := SetAt.new W f
  have h0 := h.below ((Below.refl W.heap.size W).alloc (Nat.le_refl _) (.cells #[.int .u64 (word (f) 0), .int .u64 (word (f) 1), .int .u64 (word (f) 2), .int .u64 (word (f) 3)] 25))
  have hfit := begin_fit x
  have HF := hidden hfit
  have HA := hidden hA
  have hB : Hid (Calls Tryd.prog 55 #[.pointer (some ⟨b, 0, none⟩)] (W.alloc (.cells #[.int .u64 (word (f) 0), .int .u64 (word (f) 1), .int .u64 (word (f) 2), .int .u64 (word (f) 3)] 25)) fun e w' => e = .returned (.tuple #[]) ∧ Turn R b (W.alloc (.cells #[.int .u64 (word (f) 0), .int .u64 (word (f) 1), .int .u64 (word (f) 2), .int .u64 (word (f) 3)] 25)) (bBegin x) w') := by
    obtain ⟨⟨v, h1⟩, _⟩ := h0
    exact hidden (begin_calls h1 (by omega) hw)
  have H0 := hidden h0
  have hbS : Hid (b + 1 < W.heap.size) := hidden h.2.1.lt
  have hRb : Hid (R < b) := hidden (by obtain ⟨⟨v, h1⟩, _⟩ := h; exact h1.ne)
  clear h h0 hA hfit hw
  go_enter Tryd.func54, Tryd.ntmps54
  go_wp2_with fail
  refine hB.out.mono ?_
  rintro e w1 ⟨rfl, ht⟩
  have hbox : SetAt w1 W.heap.size f := by
    have hl := hbS.out
    have hr := hRb.out
    refine (ht.2.block W.heap.size ⟨HA.out.lt, by omega, by omega, .inr fun cs fr e => ?_⟩).trans HA.out
    rw [show (W.alloc (.cells #[.int .u64 (word (f) 0), .int .u64 (word (f) 1), .int .u64 (word (f) 2), .int .u64 (word (f) 3)] 25)).heap[W.heap.size]? = _ from HA.out] at e
    simp at e
  obtain ⟨d0, d1, d2, d3, g0, g1, g2, g3⟩ := hbox.facts
  have h1 := H0.out.turn ht
  have hP : Hid (Calls Tryd.prog 56 #[.pointer (some ⟨b, 0, none⟩), (sStp f).val] w1 fun e w' => e = .returned (.tuple #[]) ∧ Turn R b w1 ⟨(bBegin x).st ++ [sStp f], (bBegin x).wt, (bBegin x).hp⟩ w') := by
    obtain ⟨⟨v, h2⟩, _⟩ := h1
    exact hidden (put_calls h2 (sStp f) (by have := HF.out.1; omega))
  have H1 := hidden h1
  clear ht hbox h1
  go_wp2_with fail
  refine hP.out.mono ?_
  rintro e w2 ⟨rfl, ht⟩
  have h2 := H1.out.turn ht
  clear ht d0 d1 d2 d3 g0 g1 g2 g3
  have h3 : St w R b (bAtom x (sStp f)) k (w2.setCell ⟨b, 2, none⟩ (.bool true)) := by
    obtain ⟨⟨v, h5⟩, h6, h7⟩ := h2
    exact St.turn ⟨⟨v, h5⟩, h6, h7⟩ (h5.flag true)
  have H3 := hidden (h3.place n)
  have hbx := h3.2.1
  obtain ⟨⟨v, h5⟩, h6, _⟩ := h2
  obtain ⟨⟨c0, c1, c2⟩, f0, f1, f2⟩ := h5.cells
  have e1 := h6.cell
  have e2 := h6.frozen
  clear h5 h6 h3 hbx
  go_wp2
  go_end0
  exact ⟨rfl, H3.out⟩
end Go.Proofs.YthiiinbkkjacbaaDoor

/- The array of operators that wait: its zero value. -/
namespace Go.Proofs.YthiiinbkkjacbaaDoor
open Go.RowKit Go.Lib Go.Joins
theorem room_zero : ∃ zs : Array Value, zs.size = 4096 ∧ ∀ w, (zeroValue 83).run Tryd.prog w = .ok (.agg zs) w := by
  have h : (Tryd.prog.info? 83).map (fun i => match i.zero with | some (.agg cs) => cs.size | _ => 0) = some 4096 := by kernel_rfl
  obtain ⟨i, hi, hz⟩ := Option.map_eq_some_iff.1 h
  match hv : i.zero, hz with
  | some (.agg cs), hz =>
    simp only at hz
    refine ⟨cs, hz, fun w => ?_⟩
    simp [zeroValue, typeInfo, hi, hv]
end Go.Proofs.YthiiinbkkjacbaaDoor

/- The contract of readSteps. -/
namespace Go.Proofs.YthiiinbkkjacbaaDoor
open Go.RowKit Go.Lib Go.Joins

/-- what readSteps tells -/
def RetRd (w : World) (r : Option (List Stp) × Nat) (e : Ending) (w' : World) : Prop :=
  (r.1 = none ∧ e = .returned (.tuple #[.slice none 0 0, .int .i64 (r.2 : Nat), .bool false])) ∨
  ∃ st v, r.1 = some st ∧ e = .returned (.tuple #[v, .int .i64 (r.2 : Nat), .bool true]) ∧ RowX w' w.heap.size v st
theorem retRd_none {w w' : World} {r : Option (List Stp) × Nat} {k : Nat} (h : r = (none, k)) : RetRd w r (.returned (.tuple #[.slice none 0 0, .int .i64 (k : Nat), .bool false])) w' := by
  subst h
  exact .inl ⟨rfl, rfl⟩
theorem retRd_some {w w' : World} {r : Option (List Stp) × Nat} {k : Nat} {st : List Stp} {v : Value} (h : r = (some st, k)) (hv : RowX w' w.heap.size v st) : RetRd w r (.returned (.tuple #[v, .int .i64 (k : Nat), .bool true])) w' := by
  subst h
  exact .inr ⟨st, v, rfl, rfl, hv⟩
/-- the room, the builder and the place, as they are laid -/
theorem st_start (w : World) (zs : Array Value) (hzs : zs.size = 4096) : St w w.heap.size (w.heap.size + 1) b0 0 (((w.alloc (.cells zs 83)).alloc (.cells #[.slice none 0 0, .slice (some ⟨w.heap.size, 0, none⟩) 0 4096, .bool false] 86)).alloc (.cells #[.int .i64 0] 3)) := by
  have h1 := heap_alloc_new w (.cells zs 83)
  have h2 := heap_alloc_new (w.alloc (.cells zs 83)) (.cells #[.slice none 0 0, .slice (some ⟨w.heap.size, 0, none⟩) 0 4096, .bool false] 86)
  have e1 : (w.alloc (.cells zs 83)).heap.size = w.heap.size + 1 := by simp
  rw [e1] at h2
  have e2 : ((w.alloc (.cells zs 83)).alloc (.cells #[.slice none 0 0, .slice (some ⟨w.heap.size, 0, none⟩) 0 4096, .bool false] 86)).heap.size = w.heap.size + 1 + 1 := by simp
  refine ⟨⟨.slice none 0 0, ⟨?_, RowX.nil _ _, ⟨zs, ?_, hzs, rfl⟩, by omega, by simp, by simp [b0]⟩⟩, ?_, ?_⟩
  · rw [heap_alloc_old _ _ (by rw [e2]; omega)]
    exact h2
  · rw [heap_alloc_old _ _ (by rw [e2]; omega), heap_alloc_old _ _ (by rw [e1]; omega)]
    exact h1
  · have := Boxed.new ((w.alloc (.cells zs 83)).alloc (.cells #[.slice none 0 0, .slice (some ⟨w.heap.size, 0, none⟩) 0 4096, .bool false] 86)) 3 (.int .i64 0)
    rw [e2] at this
    exact this
  · go_grown
/-- the place that a cell holds -/
def placeOf (b : Nat) (W : World) : Nat := (intOf ((W.cell? ⟨b, 0, none⟩).getD undef)).toNat
theorem St.placeOf {w W : World} {R b k : Nat} {x : Bld} (h : St w R b x (k : Int) W) : placeOf (b + 1) W = k := by
  unfold Go.Proofs.YthiiinbkkjacbaaDoor.placeOf
  rw [h.2.1.cell]
  simp [intOf]
theorem hb_lt {x : Bld} {k : Nat} (h : x.wt.length + hb x.hp ≤ k) : x.hp = true → x.wt.length + 1 ≤ k := fun e => by
  rw [e] at h
  simpa [hb] using h
set_option maxHeartbeats 8000000 in
set_option maxRecDepth 100000 in
theorem readSteps_calls (s : ByteArray) (w : World) (ht : Signs w) (hs : s.size ≤ 4096) :
    Calls Tryd.prog 30 #[.string s] w fun e w' => RetRd w (readV s.data.toList) e w' ∧ Below w.heap.size w w' := by
  have HT := hidden ht
  obtain ⟨zs, hzs, hz⟩ := room_zero
  have hlen : s.data.toList.length = s.size := by simp
  obtain ⟨r, hr⟩ : ∃ r, r = runM (s.data.toList.length + 1) s.data.toList b0 := ⟨_, rfl⟩
  have hA0 := at_start s.data.toList
  rw [← hr] at hA0
  have HA0 := hidden hA0
  have HR0 := hidden (fun q (h : r = (none, q)) => readV_none (hr.symm.trans h))
  have HR1 := hidden (fun x (h : r.1 = some x) => readV_some (L := s.data.toList) (x := x) (by rw [← hr]; exact h))
  have HS0 := hidden (st_start w zs hzs)
  have HL := hidden hlen
  clear ht hr hA0 hlen
  go_enter Tryd.func30, Tryd.ntmps30
  go_wp2
  go_step3
  go_wp2
  go_step3
  go_wp2
  go_loopw [] (fun wr => ∃ (k : Nat) (x : Bld), At s.data.toList r k x ∧ St w w.heap.size (w.heap.size + 1) x (k : Int) wr ∧ Below w.heap.size w wr) (fun wr => s.size - placeOf (w.heap.size + 1 + 1) wr)
  case atStart => exact ⟨0, b0, HA0.out, HS0.out, HS0.out.2.2⟩
  case round =>
    obtain ⟨k, x, hA, hS, hb⟩ := hrel
    have HA := hidden hA
    have hA' := hidden hA
    have HS := hidden hS
    have HB := hidden hb
    have e1 := hS.2.1.cell
    have e2 := hS.2.1.frozen
    have HP := hidden hS.placeOf
    have HSg := hidden (HT.out.below hb)
    have hkL := hA.le
    rw [HL.out] at hkL
    have hst := hA.st
    have hwt := hA.wt
    have hhp := hb_lt hwt
    clear hA hb
    match hd : s.data.toList.drop k with
    | [] =>
      have h0 := drop_nil hd
      have hq : decide ((k : Int) < s.size) = false := decide_eq_false (by omega)
      have HV := hidden (HR1.out x (HA.out.done hd))
      have hE : Hid (Calls Tryd.prog 63 #[.pointer (some ⟨w.heap.size + 1, 0, none⟩)] wr fun e w' => e = .returned (.tuple #[]) ∧ Turn w.heap.size (w.heap.size + 1) wr (bEnd x) w') := by
        obtain ⟨⟨v, h1⟩, _⟩ := hS
        exact hidden (end_calls h1 (by omega))
      have HST := hidden hS
      clear hS hd
      go_wp2_with fail
      refine hE.out.mono ?_
      rintro e w1 ⟨rfl, ht⟩
      have hS1 := HST.out.turn ht
      obtain ⟨⟨v, h1⟩, h2, h3⟩ := hS1
      obtain ⟨⟨c0, c1, c2⟩, f0, f1, f2⟩ := h1.cells
      obtain ⟨va, vc, hv⟩ := h1.form
      have HO := hidden h1.own
      have H3 := hidden h3
      by_cases hw : (bEnd x).wt = []
      · rw [hw] at c1
        have HF := hidden (show readV s.data.toList = (some (bEnd x).st, s.size) by rw [HV.out]; unfold fin; rw [if_pos hw, HL.out])
        subst hv
        simp only [List.length_nil] at c1
        clear ht h1 h2 h3 hw
        go_wp2
        try rw [Exit.noGoto_ret]
        go_ret3
        exact ⟨retRd_some HF.out (HO.out.lower (by omega)), H3.out⟩
      · have hl : 0 < (bEnd x).wt.length := List.length_pos_iff.2 hw
        generalize hn : (bEnd x).wt.length = n at *
        have hq2 : decide ((0 : Int) < n) = true := decide_eq_true (by omega)
        have hq3 : decide (0 < n) = true := decide_eq_true (by omega)
        have HF := hidden (show readV s.data.toList = (none, s.size) by rw [HV.out]; unfold fin; rw [if_neg hw, HL.out])
        clear ht h1 h2 h3 hw hn
        go_wp2
        try rw [Exit.noGoto_ret]
        go_ret3
        exact ⟨retRd_none HF.out, H3.out⟩
    | c :: t =>
      obtain ⟨h1, h2, h3⟩ := drop_at hd
      obtain ⟨hp, hx⟩ := num_at h1
      have hq : decide ((k : Int) < s.size) = true := decide_eq_true (by omega)
      have hnx := fun y (hy : stepM (c :: t) x = (some y, 1)) => hA'.out.step hd hy
      have hfl := fun m (hy : stepM (c :: t) x = (none, m)) => hA'.out.fail hd hy
      have HNX := hidden hnx
      have HFL := hidden hfl
      have hadd : IntKind.i64.wrap ((k : Int) + 1) = (k : Int) + 1 := by rw [IntKind.wrap_i64]; omega
      have hK := kindOf_calls c wr HSg.out
      obtain ⟨n, hn⟩ : ∃ n : Int, n = (c.toNat : Int) := ⟨_, rfl⟩
      rw [← hn] at hK hx
      have HK := hidden hK
      have heq : ∀ d : UInt8, c = d → ((n == (d.toNat : Int)) = true) := fun d e => by rw [hn, e]; simp
      have hne : ∀ d : UInt8, c ≠ d → ((n == (d.toNat : Int)) = false) := fun d e => by rw [hn]; exact toNat_ne e
      have HEQ := hidden heq
      have HNE := hidden hne
      clear hn hK heq hne
      have hop : Hid (x.wt.length + 1 < 4096 ∨ x.hp = false ∧ x.wt.length < 4096) := hidden (by
        cases e : x.hp
        · exact .inr ⟨rfl, by omega⟩
        · have := hhp e
          exact .inl (by omega))
      by_cases hsg : sign c = 0
      · rw [show decide (sign c ≠ 0) = false by simp [hsg]] at HK
        by_cases c40 : c = 40
        · have HN := hidden (HNX.out (bOpen x) (by subst c40; exact step_open))
          have q40 : (n == 40) = true := HEQ.out 40 c40
          clear h1 h2 h3 hd hnx hfl HNX HFL HEQ HNE hS c40 hsg
          go_wp2_with fail
          refine HK.out.mono ?_
          rintro e w1 ⟨rfl, hb1⟩
          have hS1 := HS.out.below hb1
          clear hb1
          have hc : Hid (Calls Tryd.prog 59 #[.pointer (some ⟨w.heap.size + 1, 0, none⟩)] w1 fun e w' => e = .returned (.tuple #[]) ∧ Turn w.heap.size (w.heap.size + 1) w1 (bOpen x) w') := by
            obtain ⟨⟨v, h5⟩, _⟩ := hS1
            exact hidden (open_calls h5 (by omega) hop.out)
          have HS1 := hidden hS1
          clear hS1
          go_wp2_with fail
          refine hc.out.mono ?_
          rintro e w2 ⟨rfl, ht⟩
          have hS2 := HS1.out.turn ht
          have HS3 := hidden (hS2.place ((k + 1 : Nat) : Int))
          have HB3 := hidden HS3.out.2.2
          have e3 := hS2.2.1.cell
          have e4 := hS2.2.1.frozen
          clear hS2 ht
          go_wp2
          try rw [Exit.noGoto_ret]
          go_roundw
          case rel => exact ⟨k + 1, _, HN.out, HS3.out, HB3.out⟩
          case measure =>
            have hm : placeOf (w.heap.size + 1 + 1) (w2.setCell ⟨w.heap.size + 1 + 1, 0, none⟩ (.int .i64 ((k : Int) + 1))) = k + 1 := HS3.out.placeOf
            have := HP.out
            omega
        · have q40 : (n == 40) = false := HNE.out 40 c40
          by_cases c41 : c = 41
          · have q41 : (n == 41) = true := HEQ.out 41 c41
            have hc0 : ∀ z, bClose x = some z → stepM (c :: t) x = (some z, 1) := fun z hz => by rw [c41]; exact step_close hz
            have hc1 : bClose x = none → stepM (c :: t) x = (none, 0) := fun hz => by
              rw [c41]
              simp only [stepM]
              rw [if_neg (by decide)]
              simp [hz]
            have HC0 := hidden (fun z hz => HNX.out z (hc0 z hz))
            have HC1 := hidden (fun hz => HFL.out 0 (hc1 hz))
            clear h1 h2 h3 hd hnx hfl HNX HFL HEQ HNE hS c40 c41 hsg hc0 hc1
            go_wp2_with fail
            refine HK.out.mono ?_
            rintro e w1 ⟨rfl, hb1⟩
            have hS1 := HS.out.below hb1
            clear hb1
            have hc : Hid (Calls Tryd.prog 60 #[.pointer (some ⟨w.heap.size + 1, 0, none⟩)] w1 fun e w' => Closed w.heap.size (w.heap.size + 1) w1 x e w') := by
              obtain ⟨⟨v, h5⟩, _⟩ := hS1
              exact hidden (close_calls h5 (by omega))
            have HS1 := hidden hS1
            have e5 := hS1.2.1.cell
            have e6 := hS1.2.1.frozen
            clear hS1
            go_wp2_with fail
            refine hc.out.mono ?_
            rintro e w2 hcl
            rcases hcl with ⟨y, hy, rfl, ht⟩ | ⟨hy, rfl, ht⟩
            · have hS2 := HS1.out.turn ht
              have HS3 := hidden (hS2.place ((k + 1 : Nat) : Int))
              have HB3 := hidden HS3.out.2.2
              have HN := hidden (HC0.out y hy)
              have e3 := hS2.2.1.cell
              have e4 := hS2.2.1.frozen
              clear hS2 ht hy
              go_wp2
              try rw [Exit.noGoto_ret]
              go_roundw
              case rel => exact ⟨k + 1, _, HN.out, HS3.out, HB3.out⟩
              case measure =>
                have hm : placeOf (w.heap.size + 1 + 1) (w2.setCell ⟨w.heap.size + 1 + 1, 0, none⟩ (.int .i64 ((k : Int) + 1))) = k + 1 := HS3.out.placeOf
                have := HP.out
                omega
            · have HF := hidden (HR0.out _ (HC1.out hy).1)
              have hb2 := HS1.out.keep ht
              have e3 : w2.cell? ⟨w.heap.size + 1 + 1, 0, none⟩ = some (.int .i64 k) := by
                obtain ⟨⟨v, h5⟩, h6, _⟩ := HS1.out
                have hkin : Kin w.heap.size (w.heap.size + 1) w1 (w.heap.size + 1 + 1) := ⟨h6.lt, by omega, by omega, .inl (by omega)⟩
                rw [World.cell?_of_block (a := ⟨w.heap.size + 1 + 1, 0, none⟩) (ht.block _ hkin)]
                exact h6.cell
              have HB2 := hidden hb2
              clear ht hy hb2
              go_wp2
              go_quiet (fail)
              go_wp2
              try rw [Exit.noGoto_ret]
              go_ret3
              exact ⟨retRd_none HF.out, below_drawn HB2.out _⟩
          · have q41 : (n == 41) = false := HNE.out 41 c41
            by_cases c124 : c = 124
            · have q124 : (n == 124) = true := HEQ.out 124 c124
              have HN := hidden (HNX.out (bSplit x) (by subst c124; exact step_bar))
              clear h1 h2 h3 hd hnx hfl HNX HFL HEQ HNE hS c40 c41 c124 hsg
              go_wp2_with fail
              refine HK.out.mono ?_
              rintro e w1 ⟨rfl, hb1⟩
              have hS1 := HS.out.below hb1
              clear hb1
              have hc : Hid (Calls Tryd.prog 61 #[.pointer (some ⟨w.heap.size + 1, 0, none⟩)] w1 fun e w' => e = .returned (.tuple #[]) ∧ Turn w.heap.size (w.heap.size + 1) w1 (bSplit x) w') := by
                obtain ⟨⟨v, h5⟩, _⟩ := hS1
                exact hidden (split_calls h5 (by omega) (by omega))
              have HS1 := hidden hS1
              clear hS1
              go_wp2_with fail
              refine hc.out.mono ?_
              rintro e w2 ⟨rfl, ht⟩
              have hS2 := HS1.out.turn ht
              have HS3 := hidden (hS2.place ((k + 1 : Nat) : Int))
              have HB3 := hidden HS3.out.2.2
              have e3 := hS2.2.1.cell
              have e4 := hS2.2.1.frozen
              clear hS2 ht
              go_wp2
              try rw [Exit.noGoto_ret]
              go_roundw
              case rel => exact ⟨k + 1, _, HN.out, HS3.out, HB3.out⟩
              case measure =>
                have hm : placeOf (w.heap.size + 1 + 1) (w2.setCell ⟨w.heap.size + 1 + 1, 0, none⟩ (.int .i64 ((k : Int) + 1))) = k + 1 := HS3.out.placeOf
                have := HP.out
                omega
            · have q124 : (n == 124) = false := HNE.out 124 c124
              have hX := fun w1 => set_calls s k w1 hp (by omega)
              rw [hd] at hX
              have hstep : stepM (c :: t) x = if (rdSet (c :: t)).2.2 = true then (some (bAtom x (sStp (rdSet (c :: t)).1)), (rdSet (c :: t)).2.1) else (none, (rdSet (c :: t)).2.1) := by
                simp only [stepM]
                rw [if_neg (by simp [hsg]), if_neg c40, if_neg c41, if_neg c124]
              have hfit := rdSet_fit (c :: t)
              have hgo := fun y m (hy : stepM (c :: t) x = (some y, m)) => hA'.out.step hd hy
              obtain ⟨⟨f, m, o⟩, hA3⟩ : ∃ A, A = rdSet (c :: t) := ⟨_, rfl⟩
              rw [← hA3] at hX hstep hfit
              simp only at hstep hfit
              have hm1 := hfit.2
              have HX := hidden hX
              have hkm : ∃ p, p = k + m := ⟨_, rfl⟩
              obtain ⟨p, hpm⟩ := hkm
              cases o
              · have HF := hidden (HR0.out _ (hfl m (by rw [hstep]; simp)).1)
                clear hfit hm1
                clear h1 h2 h3 hd hnx hfl HNX HFL HEQ HNE hS c40 c41 c124 hsg hX hstep hgo hA3
                go_wp2_with fail
                refine HK.out.mono ?_
                rintro e w1 ⟨rfl, hb1⟩
                have hS1 := HS.out.below hb1
                clear hb1
                have e5 := hS1.2.1.cell
                go_wp2_with fail
                refine (HX.out _).mono ?_
                rintro e w2 ⟨⟨g, rfl, hg⟩, hb2⟩
                have HB2 := hidden (hS1.below hb2).2.2
                clear hb2 hS1 hg
                go_wp2
                try rw [Exit.noGoto_ret]
                go_ret3
                exact ⟨retRd_none HF.out, HB2.out.alloc (by have := HB2.out.size; omega) _⟩
              · have HN := hidden (hgo (bAtom x (sStp f)) m (by rw [hstep]; simp))
                have hm1' := (hm1 rfl).1
                clear hfit hm1
                clear h1 h2 h3 hd hnx hfl HNX HFL HEQ HNE hS c40 c41 c124 hsg hX hstep hgo hA3
                go_wp2_with fail
                refine HK.out.mono ?_
                rintro e w1 ⟨rfl, hb1⟩
                have hS1 := HS.out.below hb1
                clear hb1
                have e5 := hS1.2.1.cell
                go_wp2_with fail
                refine (HX.out _).mono ?_
                rintro e w2 ⟨⟨g, rfl, hg⟩, hb2⟩
                obtain rfl := hg rfl
                have hS2 := (hS1.below hb2).below ((Below.refl w2.heap.size w2).alloc (Nat.le_refl _) (.cells #[.int .u64 (word g 0), .int .u64 (word g 1), .int .u64 (word g 2), .int .u64 (word g 3)] 25))
                obtain ⟨d0, d1, d2, d3, g0, g1, g2, g3⟩ := (SetAt.new w2 g).facts
                have hc := hidden (atom_calls hS2 g ((k : Int) + (m : Int)) (by omega) (fun e => by have := hhp e; omega))
                rw [← hpm] at HN
                clear hb2 hS1 hS2
                go_wp2_with fail
                refine hc.out.mono ?_
                rintro e w3 ⟨rfl, hS3⟩
                rw [show (k : Int) + (m : Int) = ((p : Nat) : Int) by omega] at hS3
                have HS3 := hidden hS3
                clear hS3 d0 d1 d2 d3 g0 g1 g2 g3
                have HPM := hidden hpm
                clear hpm
                go_wp2
                try rw [Exit.noGoto_ret]
                go_roundw
                case rel => exact ⟨p, _, HN.out, HS3.out, HS3.out.2.2⟩
                case measure =>
                  have hm := HS3.out.placeOf
                  have := HP.out
                  have := HPM.out
                  omega
      · rw [show decide (sign c ≠ 0) = true by simp [hsg]] at HK
        cases hxp : x.hp
        · have HF := hidden (HR0.out _ (hfl 0 (by simp only [stepM]; rw [if_pos hsg, if_neg (by rw [hxp]; simp)])).1)
          clear h1 h2 h3 hd hnx hfl HNX HFL HEQ HNE hS hsg
          go_wp2_with fail
          refine HK.out.mono ?_
          rintro e w1 ⟨rfl, hb1⟩
          have hS1 := HS.out.below hb1
          clear hb1
          have hc : Hid (Calls Tryd.prog 58 #[.pointer (some ⟨w.heap.size + 1, 0, none⟩), .int .i64 (sign c)] w1 fun e w' => e = .returned (.bool false) ∧ w1 = w') := by
            obtain ⟨⟨v, h5⟩, _⟩ := hS1
            exact hidden (repeat_no h5 (sign c) hxp)
          have HS1 := hidden hS1
          have e5 := hS1.2.1.cell
          have e6 := hS1.2.1.frozen
          clear hS1 hxp
          go_wp2_with fail
          refine hc.out.mono ?_
          rintro e w2 ⟨rfl, rfl⟩
          go_wp2
          go_quiet (fail)
          go_wp2
          try rw [Exit.noGoto_ret]
          go_ret3
          exact ⟨retRd_none HF.out, below_drawn HS1.out.2.2 _⟩
        · have HN := hidden (HNX.out _ (step_sign hsg hxp))
          clear h1 h2 h3 hd hnx hfl HNX HFL HEQ HNE hS hsg
          go_wp2_with fail
          refine HK.out.mono ?_
          rintro e w1 ⟨rfl, hb1⟩
          have hS1 := HS.out.below hb1
          clear hb1
          have hc : Hid (Calls Tryd.prog 58 #[.pointer (some ⟨w.heap.size + 1, 0, none⟩), .int .i64 (sign c)] w1 fun e w' => e = .returned (.bool true) ∧ Turn w.heap.size (w.heap.size + 1) w1 ⟨x.st ++ [kStp (sign c)], x.wt, true⟩ w') := by
            obtain ⟨⟨v, h5⟩, _⟩ := hS1
            exact hidden (repeat_yes h5 (sign c) (by omega) hxp)
          have HS1 := hidden hS1
          clear hS1 hxp
          go_wp2_with fail
          refine hc.out.mono ?_
          rintro e w2 ⟨rfl, ht⟩
          have hS2 := HS1.out.turn ht
          have HS3 := hidden (hS2.place ((k + 1 : Nat) : Int))
          have HB3 := hidden HS3.out.2.2
          have e3 := hS2.2.1.cell
          have e4 := hS2.2.1.frozen
          clear hS2 ht
          go_wp2
          try rw [Exit.noGoto_ret]
          go_roundw
          case rel => exact ⟨k + 1, _, HN.out, HS3.out, HB3.out⟩
          case measure =>
            have hm : placeOf (w.heap.size + 1 + 1) (w2.setCell ⟨w.heap.size + 1 + 1, 0, none⟩ (.int .i64 ((k : Int) + 1))) = k + 1 := HS3.out.placeOf
            have := HP.out
            omega
end Go.Proofs.YthiiinbkkjacbaaDoor
