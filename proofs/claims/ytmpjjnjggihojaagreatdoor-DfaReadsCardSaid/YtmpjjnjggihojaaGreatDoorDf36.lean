/- DfSmall, KiEq, DfSame, DfEnd, put together. -/
import Derived.Test.YtmpjjnjggihojaaGreatDoorDf35
import Derived.Test.YtmpjjnjggihojaaGreatDoorDf01
import Derived.Laws.StructEq
import Derived.ChangeKeysEq
import Derived.Handy
import Derived.Test.YtmpjjnjggihojaaGreatDoorDf14
import Derived.WalkKit
import Derived.ProofKit
import Derived.RegionTactic
import Derived.ChangeAlike
import Derived.Outline
import Derived.LoopTactic
import Derived.Laws.BytesArg
import Derived.Deep.QuietTactic
import Derived.BigQuiet
import Derived.OpenShut
import Derived.ShutString
import Derived.ChangeOld
import Derived.SizedLaws
/- small: what is known of a net that is. -/
namespace Go.Proofs.YtmpjjnjggihojaaGreatDoor
open Go.RowKit Go.Lib Go.Joins
def totD (F : List (List Int)) : Nat := (F.map fun l => min l.length 1000).sum
theorem totD_more (F : List (List Int)) (k : Nat) (hk : k < F.length) : totD (F.take (k + 1)) = totD (F.take k) + min (F.getD k []).length 1000 := by
  unfold totD
  rw [List.take_succ_eq_append_getElem hk, List.map_append, List.sum_append, List.getD_eq_getElem?_getD, List.getElem?_eq_getElem hk]
  simp
theorem totD_le (F : List (List Int)) : totD F ≤ F.length * 1000 := by
  unfold totD
  induction F with
  | nil => simp
  | cons L r ih => simp only [List.map_cons, List.sum_cons, List.length_cons]; omega
theorem totD_each : ∀ (F : List (List Int)) (i : Nat), min (F.getD i []).length 1000 ≤ totD F
  | [], i => by simp [totD]
  | L :: r, 0 => by simp [totD]
  | L :: r, i + 1 => by
    have := totD_each r i
    simp only [totD, List.map_cons, List.sum_cons, List.getD_cons_succ] at *
    omega
structure SmallN (N : NetM) : Prop where
  fol : N.fol.length ≤ 30
  sum : N.sets.length ≤ 300 ∧ N.of.length ≤ 300 ∧ N.last.length ≤ 300 ∧ N.first.length ≤ 300
  each : ∀ i, (N.fol.getD i []).length ≤ 300
def smallD (N : NetM) : Bool := decide (N.fol.length ≤ 30) && decide (N.first.length + N.of.length + N.last.length + N.sets.length + totD N.fol ≤ 300)
theorem small_yes {N : NetM} (h : smallD N = true) : SmallN N := by
  simp only [smallD, Bool.and_eq_true, decide_eq_true_eq] at h
  exact ⟨h.1, by omega, fun i => by have := totD_each N.fol i; omega⟩
set_option maxHeartbeats 4000000 in
set_option maxRecDepth 100000 in
theorem smallD_calls {w : World} {vs vo vl vf v1 : Value} {N : NetM} (h : RdNet w.heap.size w vs vo vl vf v1 N) (hz : NetSz N) : Calls Tryz.prog 7 #[.agg #[vs, vo, vl, vf, v1]] w fun e w' => e = .returned (.bool (smallD N)) ∧ Below w.heap.size w w' := by
  have hba := (Below.refl w.heap.size w).alloc (Nat.le_refl _) (.cells #[vs, vo, vl, vf, v1] 27)
  have hbx := net_box w vs vo vl vf v1 27
  obtain ⟨w0, hw0⟩ : ∃ w0, w0 = w.alloc (.cells #[vs, vo, vl, vf, v1] 27) := ⟨_, rfl⟩
  rw [← hw0] at hba hbx
  obtain ⟨sa, cs, rfl⟩ := h.sets.form
  obtain ⟨so, co, rfl⟩ := h.of.form
  obtain ⟨sl, cl, rfl⟩ := h.last.form
  obtain ⟨sf, cf, rfl⟩ := h.fol.form
  obtain ⟨s1, c1, rfl⟩ := h.first.form
  have HFB := hidden (show N.fol.length ≤ 9223372036854775807 from by obtain ⟨_, _, e, h1, h2, _⟩ := h.fol; simp only [Value.slice.injEq] at e; unfold maxLen at h2; omega)
  have HFO := hidden (fun W (hb : Below w.heap.size w W) i (hi : i < N.fol.length) => h.fol.at hb i hi)
  have HF := hidden (show smallD N = (decide (N.fol.length ≤ 30) && decide (N.first.length + N.of.length + N.last.length + N.sets.length + totD N.fol ≤ 300)) from rfl)
  have HMO := hidden (fun k (hk : k < N.fol.length) => totD_more N.fol k hk)
  have HLE := hidden (fun k => (show totD (N.fol.take k) ≤ k * 1000 from Nat.le_trans (totD_le _) (Nat.mul_le_mul_right _ (by rw [List.length_take]; omega))))
  have HALL := hidden (show totD (N.fol.take N.fol.length) = totD N.fol by rw [List.take_length])
  have H0 := hidden (show totD (N.fol.take 0) = 0 by simp [totD])
  obtain ⟨z1, z2, z3, z4⟩ := hz
  have HBA := hidden hba
  have HBX := hidden hbx
  have HW0 := hidden hw0
  obtain ⟨ns, hns⟩ : ∃ k, k = N.sets.length := ⟨_, rfl⟩
  obtain ⟨no, hno⟩ : ∃ k, k = N.of.length := ⟨_, rfl⟩
  obtain ⟨nl, hnl⟩ : ∃ k, k = N.last.length := ⟨_, rfl⟩
  obtain ⟨nf, hnf⟩ : ∃ k, k = N.fol.length := ⟨_, rfl⟩
  obtain ⟨n1, hn1⟩ : ∃ k, k = N.first.length := ⟨_, rfl⟩
  rw [← hns] at HF HBX HW0 z1 ⊢
  rw [← hno] at HF HBX HW0 z2 ⊢
  rw [← hnl] at HF HBX HW0 z3 ⊢
  rw [← hnf] at HFO HF HMO HALL HFB HBX HW0 ⊢
  rw [← hn1] at HF HBX HW0 z4 ⊢
  have hnfb := HFB.out
  clear h hba hbx hw0 hns hno hnl hnf hn1
  obtain ⟨b0, b1, b2, b3, b4⟩ := HBX.out w0 (by have := HBA.out.size; exact (by rw [HW0.out]; exact Below.refl _ _))
  have s1' : IntKind.i64.wrap ((n1 : Int) + no) = ((n1 + no : Nat) : Int) := by rw [IntKind.wrap_i64]; omega
  have s2' : IntKind.i64.wrap (((n1 + no : Nat) : Int) + nl) = ((n1 + no + nl : Nat) : Int) := by rw [IntKind.wrap_i64]; omega
  have s3' : IntKind.i64.wrap (((n1 + no + nl : Nat) : Int) + ns) = ((n1 + no + nl + ns : Nat) : Int) := by rw [IntKind.wrap_i64]; omega
  rw [HW0.out] at b0 b1 b2 b3 b4
  go_enter Tryz.func7, Tryz.ntmps7
  have HB0 := hidden (show Below (w.heap.size + 1) w0 w0 from Below.refl _ _)
  have HS0 := hidden (show w0.heap.size = w.heap.size + 1 by rw [HW0.out]; simp)
  go_wp2
  rw [← HW0.out]
  clear b0 b1 b2 b3 b4
  obtain ⟨sm, hsm⟩ : ∃ s : Nat, s = n1 + no + nl + ns := ⟨_, rfl⟩
  rw [← hsm] at HF
  have HSM := hidden hsm
  rw [show ((n1 : Int) + no + nl + ns) = (sm : Int) by rw [hsm]; omega]
  have hsmb : sm ≤ 562949953421312 := by omega
  clear hsm s1' s2' s3'
  go_loopw [3, 4] (fun av i wr => ∃ (k : Nat) (x : Int), k ≤ nf ∧ av = .int .i64 x ∧ i = .int .i64 k ∧ Hid (nf ≤ 30 → x = ((sm + totD (N.fol.take k) : Nat) : Int)) ∧ wr = w0) (fun _ i _ => nf - (Go.RowKit.intOf i).toNat)
  case atStart => exact ⟨0, sm, by omega, rfl, rfl, hidden (fun _ => by rw [H0.out]; rfl), rfl⟩
  case round =>
    obtain ⟨k, x, hk, rfl, rfl, HX, rfl⟩ := hrel
    obtain ⟨b0, b1, b2, b3, b4⟩ := HBX.out wr HB0.out
    by_cases hlt : k < nf
    · obtain ⟨b, off, a', c', rfl, hb, hc, _⟩ := HFO.out wr HBA.out k hlt
      obtain ⟨l, hl⟩ : ∃ l, l = (N.fol.getD k []).length := ⟨_, rfl⟩
      have HK := hidden (HMO.out k hlt)
      rw [← hl] at hc HK
      have HLK := hidden (HLE.out k)
      clear hl
      go_wp2
      go_roundw
      case rel =>
        refine ⟨k + 1, _, by omega, rfl, rfl, hidden (fun h => ?_), trivial⟩
        have h1 := HX.out h
        have h2 := HLK.out
        rw [HK.out, h1]
        unfold wrap64
        omega
      case measure => simp [Go.RowKit.intOf]; omega
    · have e : k = nf := by omega
      subst e
      have HB := hidden HBA.out
      by_cases h30 : k ≤ 30
      · have hx := HX.out h30
        rw [HALL.out] at hx
        obtain ⟨tt, htt⟩ : ∃ t, t = sm + totD N.fol := ⟨_, rfl⟩
        rw [← htt] at hx
        have HTT := hidden htt
        subst hx
        by_cases h4 : tt ≤ 300
        · have q0 : decide (k ≤ 30) = true := decide_eq_true h30
          have q1 : decide ((k : Int) ≤ 30) = true := decide_eq_true (by omega)
          have q2 : decide ((tt : Int) ≤ 300) = true := decide_eq_true (by omega)
          have q3 : decide (tt ≤ 300) = true := decide_eq_true h4
          have HE := hidden (show smallD N = true by rw [HF.out, q0, ← HTT.out, q3]; rfl)
          clear h30 h4 htt
          go_wp2
          go_ret
          exact ⟨ret_b HE.out.symm, HB.out⟩
        · have q0 : decide (k ≤ 30) = true := decide_eq_true h30
          have q1 : decide ((k : Int) ≤ 30) = true := decide_eq_true (by omega)
          have q2 : decide ((tt : Int) ≤ 300) = false := decide_eq_false (by omega)
          have q3 : decide (tt ≤ 300) = false := decide_eq_false h4
          have HE := hidden (show smallD N = false by rw [HF.out, q0, ← HTT.out, q3]; rfl)
          clear h30 h4 htt
          go_wp2
          go_ret
          exact ⟨ret_b HE.out.symm, HB.out⟩
      · have q0 : decide (k ≤ 30) = false := decide_eq_false h30
        have q1 : decide ((k : Int) ≤ 30) = false := decide_eq_false (by omega)
        have HE := hidden (show smallD N = false by rw [HF.out, q0]; rfl)
        clear h30
        go_wp2
        go_ret
        exact ⟨ret_b HE.out.symm, HB.out⟩
end Go.Proofs.YtmpjjnjggihojaaGreatDoor

/- Two arrays of 256 held against one another; a whole array loaded at a guarded operation. -/
namespace Go.Proofs.YtmpjjnjggihojaaGreatDoor
open Go.RowKit

/-- two arrays held against one another -/
theorem kitems_step {P : Program} {w : World} {d : Nat} {e : TypeId} {k : IntKind} (he : P.plainKey e = true) (hu : P.underlying e = some (.int k)) {xs ys : Array Value} {j : Nat} {x y : Int} {is : List Nat} {r : Bool}
    (hx : xs[j * 1]? = some (.int k x)) (hy : ys[j * 1]? = some (.int k y)) (h : (Op.eqItems (d + 1) e 1 xs ys is).run P w = .ok r w) : (Op.eqItems (d + 1) e 1 xs ys (j :: is)).run P w = .ok (x == y && r) w := by
  simp only [Op.eqItems, Sem.run_bind]
  rw [run_part_plain (P := P) (w := w) he hx]
  simp only [Result.andThen_ok]
  rw [run_part_plain (P := P) (w := w) he hy]
  simp only [Result.andThen_ok]
  rw [run_equalIn_int w d e k k x y hu]
  simp only [Result.andThen_ok]
  cases (x == y)
  · simp
  · simpa using h
theorem eq_items (w : World) (g h : Nat → Nat) : ∀ is : List Nat, (∀ j ∈ is, j < 256) → (Op.eqItems 9999 5 1 (cellsN (nV g)) (cellsN (nV h)) is).run Tryz.prog w = .ok (is.all fun j => ((g j : Int) == (h j : Int))) w
  | [], _ => by simp [Op.eqItems]
  | j :: is, hj => by
    rw [List.all_cons]
    exact kitems_step (d := 9998) (by kernel_rfl) Tryz.underlying5 (by rw [Nat.mul_one]; exact cellsN_get _ (hj j (by simp))) (by rw [Nat.mul_one]; exact cellsN_get _ (hj j (by simp))) (eq_items w g h is fun i hi => hj i (by simp [hi]))
/-- the same at each place -/
def sameA (g h : Nat → Nat) : Bool := (List.range 256).all fun j => ((g j : Int) == (h j : Int))
theorem sameA_of {g h : Nat → Nat} (e : ∀ j, j < 256 → g j = h j) : sameA g h = true := by
  unfold sameA
  rw [List.all_eq_true]
  intro j hj
  rw [e j (by simpa using hj)]
  simp
theorem eq_arrs (w : World) (g h : Nat → Nat) : (Op.equalIn 10000 30 (ar g) (ar h)).run Tryz.prog w = .ok (sameA g h) w := by
  obtain ⟨i, hi⟩ : ∃ i, Tryz.prog.info? 5 = some i := Option.isSome_iff_exists.1 (by kernel_rfl)
  have hc : Tryz.prog.cellsOf 5 = 1 := by kernel_rfl
  rw [run_equalIn_array (P := Tryz.prog) (w := w) 9999 _ _ Tryz.underlying30 hi, hc]
  exact eq_items w g h _ fun j hj => by simpa using hj
theorem eq_same (w : World) {g h : Nat → Nat} (e : ∀ j, j < 256 → g j = h j) : (Op.equalIn 10000 30 (ar g) (ar h)).run Tryz.prog w = .ok true w := by
  rw [eq_arrs, sameA_of e]

/-- a whole array is loaded, at a guarded operation -/
theorem wp_load_arr {o : Oper} {a : Act} {w : World} {K : Act → World → Prop} {Q : Exit → Act → World → Prop} {x : Operand} (ho : o.op = .load 30 x)
    {B : Nat} {v : Nat → Value} (hx : a.eval x = .pointer (some ⟨B, 0, none⟩)) (hA : ArrAt w B 30 v)
    (h : K (a.put o.dst (.agg (cellsN v))) w) : o.wp Tryz.prog a w K Q :=
  wp_load_row 30 x ho B hx 30 _ _ _ hA Tryz.underlying30 rfl (by rw [cellsN_size]; exact size_arr) h
end Go.Proofs.YtmpjjnjggihojaaGreatDoor

/- Contracts of the reference's Label, and of its Same at two machines that read as one. -/
namespace Go.Proofs.YtmpjjnjggihojaaGreatDoor
open Go.RowKit

/-- something is loaded -/
theorem load_any {ops : Array Oper} {rest : List Oper} {o : Oper} {a : Act} {w : World} {Q : Exit → Act → World → Prop} (hgd : o.guard = none) {t : TypeId} {x : Operand} {p : Addr} {v : Value} (ho : o.op = .load t x) (hx : a.eval x = .pointer (some p))
    (hl : (loadVar t p).run Tryz.prog w = .ok v w) (h : wpList Tryz.prog ops Q rest (a.put o.dst v) w) : wpList Tryz.prog ops Q (o :: rest) a w :=
  wpList_plain hgd fun _ hK => by
    unfold Oper.wp execOp
    simp only [ho, hx, Instr.loadAt, Instr.sureAddr, Sem.run_bind, Sem.run_pure, Result.andThen_ok, hl]
    exact hK _ _ h

set_option maxHeartbeats 2000000 in
set_option maxRecDepth 100000 in
theorem rlabel_calls {w : World} {vn vl : Value} {D : DfaM} (s : Int) (h : RdDfa w.heap.size w vn vl D) :
    Calls Tryz.prog 20 #[dfaA D.cls D.width vn vl, .int .i64 s] w fun e w' => e = .returned (.int .i64 (labelD D s)) ∧ Below w.heap.size w w' := by
  obtain ⟨al, cl, rfl⟩ := h.label.form
  have hbl : D.label.length ≤ 9223372036854775807 := by
    obtain ⟨_, _, e, h1, h2, _⟩ := h.label
    unfold maxLen at h2
    omega
  have HR := hidden (fun w' (hb : Below w.heap.size w w') => rright14_calls (h.below hb hb.size))
  obtain ⟨m, hm⟩ : ∃ m, m = D.label.length := ⟨_, rfl⟩
  rw [← hm] at hbl h HR ⊢
  have HM := hidden hm
  have HD := hidden h
  have HX := hidden (DfaAt.new w D.cls D.width vn (.slice al m cl))
  have HB0 := hidden ((Below.refl w.heap.size w).alloc (Nat.le_refl _) (.cells (dfaC D.cls D.width vn (.slice al m cl)) 32))
  have hbx := run_box_dfa D.cls D.width vn (.slice al m cl)
  clear h hm
  go_enter Tryz.func20, Tryz.ntmps20
  go_wp2_with (refine load_dfa rfl (x := .tmp 2) rfl rfl HX.out ?_)
  refine (HR.out _ HB0.out).mono ?_
  rintro e w1 ⟨rfl, hb1⟩
  have HX1 := hidden (HX.out.below hb1)
  have HB1 := hidden (below_then HB0.out HB0.out.size hb1)
  have e3 := (HX.out.below hb1).label
  clear hb1
  cases hr : rightD D with
  | false =>
    have HF := hidden (show labelD D s = -1 by unfold labelD; rw [if_neg (by simp [hr])])
    clear hr
    go_wp2
    go_ret
    exact ⟨ret_i HF.out.symm, HB1.out⟩
  | true =>
    have HRT := hidden hr
    clear hr
    by_cases h0 : s < 0
    · have HF := hidden (show labelD D s = -1 by unfold labelD; rw [if_neg (by omega)])
      go_wp2
      go_ret
      exact ⟨ret_i HF.out.symm, HB1.out⟩
    · by_cases h1 : s < m
      · obtain ⟨j, rfl⟩ : ∃ j : Nat, s = j := ⟨s.toNat, by omega⟩
        have hj : j < m := by omega
        have HF := hidden (show labelD D (j : Int) = D.label.getD j 0 by unfold labelD; rw [if_pos ⟨HRT.out, by omega, by rw [← HM.out]; omega⟩]; rfl)
        obtain ⟨b, off, rfl, hbb, hc⟩ := (HM.out ▸ HD.out.label).atZ HB1.out j (by rw [← HM.out]; exact hj)
        generalize D.label.getD j 0 = x at *
        go_wp2
        go_ret
        exact ⟨ret_i HF.out.symm, HB1.out⟩
      · have HF := hidden (show labelD D s = -1 by unfold labelD; rw [if_neg (by rw [← HM.out]; omega)])
        go_wp2
        go_ret
        exact ⟨ret_i HF.out.symm, HB1.out⟩

set_option maxHeartbeats 2000000 in
set_option maxRecDepth 100000 in
theorem rsame14_calls {w : World} {vn vl un ul : Value} {D : DfaM} (h : RdDfa w.heap.size w vn vl D) (k : RdDfa w.heap.size w un ul D) :
    Calls Tryz.prog 11 #[dfaA D.cls D.width vn vl, dfaA D.cls D.width un ul] w fun e w' => e = .returned (.bool true) ∧ Below w.heap.size w w' := by
  obtain ⟨an, cn, rfl⟩ := h.next.form
  obtain ⟨bn, dn, rfl⟩ := k.next.form
  have hbn : D.next.length ≤ 9223372036854775807 := by
    obtain ⟨_, _, e, h1, h2, _⟩ := h.next
    unfold maxLen at h2
    omega
  have HL := hidden (fun w' (hb : Below w.heap.size w w') => (rsame_calls (w := w') (h.label.below hb hb.size) (k.label.below hb hb.size)).mono fun e w2 h => (⟨h.1.trans (by rw [decide_eq_true rfl]), h.2⟩ : e = .returned (.bool true) ∧ Below w'.heap.size w' w2))
  obtain ⟨n, hn⟩ : ∃ n, n = D.next.length := ⟨_, rfl⟩
  rw [← hn] at hbn h k ⊢
  have HN := hidden hn
  have HD := hidden h
  have HK := hidden k
  have HX := hidden ((DfaAt.new w D.cls D.width (.slice an n cn) vl).alloc (.cells (dfaC D.cls D.width (.slice bn n dn) ul) 32))
  have HY := hidden (DfaAt.newAt (g := D.cls) (wd := D.width) (vn := .slice bn n dn) (vl := ul) (show (w.alloc (.cells (dfaC D.cls D.width (.slice an n cn) vl) 32)).heap.size = w.heap.size + 1 by simp))
  have HB0 := hidden (((Below.refl w.heap.size w).alloc (Nat.le_refl _) (.cells (dfaC D.cls D.width (.slice an n cn) vl) 32)).alloc (by simp) (.cells (dfaC D.cls D.width (.slice bn n dn) ul) 32))
  have hbx := run_box_dfa D.cls D.width (.slice an n cn) vl
  have hbx2 := run_box_dfa D.cls D.width (.slice bn n dn) ul
  have heq := fun w' => eq_same w' (g := D.cls) (h := D.cls) fun _ _ => rfl
  have x1 := HX.out.width
  have x2 := HX.out.next
  have x3 := HX.out.label
  have y1 := HY.out.width
  have y2 := HY.out.next
  have y3 := HY.out.label
  have q1 : (D.width == D.width) = true := by simp
  have q2 : ((n : Int) == (n : Int)) = true := by simp
  clear h k hn
  go_enter Tryz.func11, Tryz.ntmps11
  go_wp2_with (first | (refine load_any rfl (x := .tmp 6) rfl rfl (run_load_cls HX.out) ?_) | (refine load_any rfl (x := .tmp 8) rfl rfl (run_load_cls HY.out) ?_))
  refine (HL.out _ HB0.out).mono ?_
  rintro e w1 ⟨rfl, hb1⟩
  have HX1 := hidden (HX.out.below hb1)
  have HY1 := hidden (HY.out.below hb1)
  have HB1 := hidden (below_then HB0.out HB0.out.size hb1)
  clear hb1 heq x1 x2 x3 y1 y2 y3 q1 q2 HX HY HB0
  go_wp2
  go_loopw [5] (fun i wr => ∃ j : Nat, j ≤ n ∧ i = .int .i64 j ∧ Below w1.heap.size w1 wr) (fun i _ => n - (Go.RowKit.intOf i).toNat)
  case atStart => exact ⟨0, by omega, rfl, Below.refl _ _⟩
  case round =>
    obtain ⟨j, hj, rfl, hb⟩ := hrel
    have HB := hidden hb
    have hX := HX1.out.below hb
    have hY := HY1.out.below hb
    have x2 := hX.next
    have c2 := fun (p : Later wr) => Later.cell hX.next hX.lt p
    have c3 := fun (p : Later wr) => Later.cell hY.next hY.lt p
    clear hb hX hY
    by_cases hlt : j < n
    · obtain ⟨b, off, a', c', rfl, hbb, hc, hr⟩ := (HN.out ▸ HD.out.next).at (below_then HB1.out HB1.out.size HB.out) j (by rw [← HN.out]; exact hlt)
      obtain ⟨b2, off2, a2, c22, rfl, hbb2, hc2, hr2⟩ := (HN.out ▸ HK.out.next).at (below_then HB1.out HB1.out.size HB.out) j (by rw [← HN.out]; exact hlt)
      have d0 := fun (p : Later wr) => Later.cell hc (cell_lt hc) p
      have d1 := fun (p : Later wr) => Later.cell hc2 (cell_lt hc2) p
      have hwz : w.heap.size ≤ wr.heap.size := (below_then HB1.out HB1.out.size HB.out).size
      have HS := hidden (fun (p : Later wr) => rsame_calls (w := p.at') (hr.below (p.ok.mono hwz) (Nat.le_refl _)) (hr2.below (p.ok.mono hwz) (Nat.le_refl _)))
      generalize (D.next.getD j []).length = rl at *
      generalize D.next.getD j [] = r at *
      have HS := hidden (fun (p : Later wr) => (HS.out p).mono fun e w' h => (⟨h.1.trans (by rw [decide_eq_true rfl]), h.2⟩ : e = .returned (.bool true) ∧ Below p.at'.heap.size p.at' w'))
      have hjn : (j : Int) < n := by omega
      clear hr hr2 hc hc2
      go_wp2
      clear x2
      refine wp_region_later (by kernel_rfl) (by kernel_rfl) ?_
      repeat (go_big_quiet_step ((go_at_call 34; exact Later.calls (HS.out _))))
      refine wpQuiet_nil ?_
      rintro _ ⟨⟨w5, hb5⟩, rfl⟩
      go_wp2
      go_roundw
      case rel => exact ⟨j + 1, by omega, by go_num, below_then HB.out HB.out.size hb5⟩
      case measure => simp [Go.RowKit.intOf]; omega
    · obtain rfl : j = n := by omega
      go_wp2
      go_ret
      exact ⟨rfl, below_then HB1.out HB1.out.size HB.out⟩
end Go.Proofs.YtmpjjnjggihojaaGreatDoor

/- The last step of every law; texts that are the same and others. -/
namespace Go.Proofs.YtmpjjnjggihojaaGreatDoor
open Go.RowKit
theorem text_eq {a b : ByteArray} (h : (a.toList == b.toList) = true) : a = b := by
  rw [beq_iff_eq, ByteArray.toList_eq, ByteArray.toList_eq] at h
  exact Go.WideShapes.bytes_inj h
theorem text_ne {a b : ByteArray} (h : (a.toList == b.toList) = false) : a ≠ b := by
  rintro rfl
  simp at h
theorem text_same (a : ByteArray) : (a.toList == a.toList) = true := by simp
theorem text_other {a b : ByteArray} (h : a ≠ b) : (a.toList == b.toList) = false := by
  rw [Bool.eq_false_iff]
  exact fun e => h (text_eq e)

section
open Go.ChangeShapes Go.WideShapes Go.ChangeAt
/-- what came in reads as it did, over all of the parameters -/
theorem all_read {H : Type} {enc : TypeId × Value → H} {W W' : World} (hb : Below W.heap.size W W') : ∀ {ts : List TypeId} {vs : List Value} {ds : List (DataW H)} {ps : List MemPlace},
    (∀ t ∈ ts, Tryz.prog.readableRec t = true ∧ t < Tryz.prog.types.size) → DataW.TrodAll enc Tryz.prog W 0 (fun _ => true) true ts vs ds ps → (∀ x ∈ ps, x.block < W.heap.size) →
    DataW.TrodAll enc Tryz.prog W' 0 (fun b => decide (b < W.heap.size)) true ts vs ds ps
  | [], vs, ds, ps, _, h, _ => by
    obtain ⟨rfl, rfl, rfl⟩ := trodAll_nil h
    exact trodAll_mk0
  | t :: ts, vs, ds, ps, hr, h, hlt => by
    obtain ⟨v, vs', d, ds', p, q, rfl, rfl, rfl, h0, h1⟩ := trodAll_cons h
    exact trodAll_cons_mk (Below.trod laidOut (hr t (List.mem_cons_self ..)).1 (hr t (List.mem_cons_self ..)).2 h0 hb (fun x hx => hlt x (List.mem_append_left _ hx)))
      (all_read hb (fun t' ht' => hr t' (List.mem_cons_of_mem _ ht')) h1 (fun x hx => hlt x (List.mem_append_right _ hx)))

theorem read_len {H : Type} {enc : TypeId × Value → H} {W : World} {b : Nat} {sp : Nat → Bool} {hd : Bool} : ∀ {ts : List TypeId} {vs : List Value} {ds : List (DataW H)} {ps : List MemPlace},
    DataW.TrodAll enc Tryz.prog W b sp hd ts vs ds ps → ds.length = ts.length
  | [], vs, ds, ps, h => by
    obtain ⟨rfl, rfl, rfl⟩ := trodAll_nil h
    rfl
  | t :: ts, vs, ds, ps, h => by
    obtain ⟨v, vs', d, ds', p, q, rfl, rfl, rfl, h0, h1⟩ := trodAll_cons h
    simp [read_len h1]

/-- THE LAST STEP OF EVERY LAW: true came back, and nothing that was there has turned -/
theorem ends_true {H : Type} {enc : TypeId × Value → H} {f : Func} {s : ChangeSpec} {W W' : World} {args : Array Value} {ds gs : List (DataW H)} {before : List MemPlace}
    (hW : DataW.Whole enc Tryz.prog f.params.toList s.vars false W args.toList ds gs before) (hv : s.vars = []) (hres : f.resultTypes = #[4])
    (hfn : ∀ xs : List (DataW H), xs.length = f.params.toList.length → s.fn H xs = { results := [.lit (.bool true)], args := xs })
    (hread : (f.params.toList.all fun t => Tryz.prog.readableRec t && decide (t < Tryz.prog.types.size)) = true) (hb : Below W.heap.size W W') :
    s.post enc Tryz.prog f false true false false W args (.bool true) W' := by
  have hW' := hW
  obtain ⟨p, q, hA, hV, rfl, hfz, hnd⟩ := hW
  have hlt : ∀ x ∈ p ++ q, x.block < W.heap.size := fun x hx => hW'.lt x hx
  have hread' : ∀ t ∈ f.params.toList, Tryz.prog.readableRec t = true ∧ t < Tryz.prog.types.size := fun t ht => by
    have := List.all_eq_true.1 hread t ht
    simpa using this
  have hlen := read_len hA
  rw [hv] at hV
  obtain ⟨rfl, rfl⟩ := trodVars_none hV
  have e := hfn (ds ++ []) (by simpa using hlen)
  refine ⟨ds, [], _, [], p, [], hW', ?_, ?_, ?_, hb.frame _, fun h => by cases h⟩
  · rw [e, hres]
    exact trodAll_mk1 (shut_bool Tryz.underlying4 _)
  · rw [e, List.append_nil]
    exact all_read hb hread' hA (fun x hx => hlt x (List.mem_append_left _ hx))
  · rw [e, hv]
    rfl
end
end Go.Proofs.YtmpjjnjggihojaaGreatDoor
