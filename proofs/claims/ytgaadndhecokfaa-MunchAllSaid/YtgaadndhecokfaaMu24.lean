/- MuPWhole, Texts, KiByt, EscBuild, put together. -/
import Derived.Test.YtgaadndhecokfaaMu23
import Derived.Test.YtgaadndhecokfaaMu03
import Derived.Lib.AppendStr
import Derived.Test.YtgaadndhecokfaaMu01
import Derived.Laws.AppendOwn
import Derived.OwnWalk
import Derived.Handy
import Derived.Shelf.Strings.BuilderK
/- Contracts of munch.Next and munch.Whole. -/
namespace Go.Proofs.Ytgaadndhecokfaa
open Go.RowKit Go.Lib Go.Joins
attribute [local go_sem] Rl.evalR_tmp Rl.evalR_const Rl.evalR_global Rl.evalR_func

theorem cutS_nil (D : DfaM) : cutS D ⟨#[]⟩ = [] := by
  unfold cutS
  split
  · rfl
  · rfl
theorem cutS_cons {D : DfaM} (hR : rightD D = true) {s : ByteArray} (hs : s.size ≠ 0) : cutS D s = ((nxP D s.data.toList).1, txt (s.data.toList.take (nxP D s.data.toList).2)) :: (cutP D (s.data.toList.drop (nxP D s.data.toList).2)).map pk := by
  unfold cutS
  rw [if_pos hR, cut_step (data_no hs)]
  rfl
theorem whole_fst (D : DfaM) (p : Pc) : ((fstV (cutS D p.2)).2 && decide ((fstV (cutS D p.2)).1 = p)) = wholeV D p := by
  obtain ⟨t, s⟩ := p
  dsimp only
  by_cases he : s = ⟨#[]⟩
  · subst he
    rw [cutS_nil]
    simp [fstV, wholeV]
  · have hz := txt_ne he
    cases hR : rightD D with
    | false =>
      have e : cutS D s = [] := by unfold cutS; rw [if_neg (by simp [hR])]
      unfold wholeV
      rw [e]
      simp [fstV, sameP]
    | true =>
      have e := cutS_cons hR hz
      obtain ⟨n, hn⟩ : ∃ n, n = (nxP D s.data.toList).2 := ⟨_, rfl⟩
      have hl := nx_len (D := D) (data_no hz)
      rw [← hn] at e hl
      unfold wholeV
      dsimp only
      rw [decide_eq_true he, Bool.true_and]
      have e1 : fstV (cutS D s) = (((nxP D s.data.toList).1, txt (s.data.toList.take n)), true) := by rw [e]; rfl
      rw [e1]
      simp only [Bool.true_and]
      unfold sameP
      by_cases h : ((nxP D s.data.toList).1, txt (s.data.toList.take n)) = (t, s)
      · rw [decide_eq_true h]
        symm
        have h2 : txt (s.data.toList.take n) = s := congrArg Prod.snd h
        have h3 : s.data.toList.take n = s.data.toList := txt_inj (h2.trans (txt_list s).symm)
        have h4 : n = s.data.toList.length := by
          have := congrArg List.length h3
          rw [List.length_take] at this
          omega
        rw [e, h, h4, List.drop_eq_nil_of_le (Nat.le_refl _), cut_nil]
        exact decide_eq_true rfl
      · rw [decide_eq_false h]
        symm
        refine decide_eq_false fun h2 => h ?_
        rw [e] at h2
        exact (List.cons.inj h2).1
theorem next_fst {D : DfaM} {s : ByteArray} {p : Nat} (hp : p < s.size) : nxV D s p = if (fstV (cutS D (s.extract p s.size))).2 = true then ((fstV (cutS D (s.extract p s.size))).1.1, (p : Int) + (fstV (cutS D (s.extract p s.size))).1.2.size) else (-1, 0) := by
  have hu : (s.extract p s.size).data.toList = s.data.toList.drop p := by
    rw [part_list, List.take_of_length_le (by rw [List.length_drop, list_len]; omega)]
  cases hR : rightD D with
  | false =>
    have e : cutS D (s.extract p s.size) = [] := by unfold cutS; rw [if_neg (by simp [hR])]
    rw [e]
    unfold nxV
    rw [if_neg (by simp [hR])]
    rfl
  | true =>
    have hz : (s.extract p s.size).size ≠ 0 := by rw [ByteArray.size_extract]; omega
    have hl := nx_len (D := D) (data_no hz)
    rw [cutS_cons hR hz]
    rw [hu] at hl ⊢
    unfold nxV
    rw [if_pos ⟨hR, by omega, by omega⟩, Int.toNat_natCast]
    show _ = (_, (p : Int) + ((txt _).size : Int))
    rw [txt_size, List.length_take, Nat.min_eq_left hl.2]
    rfl
theorem fst_size (D : DfaM) (s : ByteArray) : (fstV (cutS D s)).1.2.size ≤ s.size := by
  by_cases hz : s.size = 0
  · have e : cutS D s = [] := by
      unfold cutS
      rw [data_yes hz]
      split
      · rfl
      · rfl
    rw [e]
    exact Nat.zero_le _
  · cases hR : rightD D with
    | false =>
      have e : cutS D s = [] := by unfold cutS; rw [if_neg (by simp [hR])]
      rw [e]
      exact Nat.zero_le _
    | true =>
      rw [cutS_cons hR hz]
      show (txt _).size ≤ _
      rw [txt_size, List.length_take, list_len]
      omega
set_option maxHeartbeats 4000000 in
set_option maxRecDepth 100000 in
theorem whole16_calls {w : World} {vn vl : Value} {D : DfaM} (p : Pc) (h : RdDfa w.heap.size w vn vl D) (hs : p.2.size ≤ 200) :
    Calls Try.prog 16 #[dfaA D.cls D.width vn vl, .agg #[.int .i64 p.1, .string p.2]] w fun e w' => e = .returned (.bool (wholeV D p)) ∧ Below w.heap.size w w' := by
  have hbx := run_box_dfa D.cls D.width vn vl
  have HXR := hidden ((DfaAt.new w D.cls D.width vn vl).alloc (.cells #[.int .i64 p.1, .string p.2] 33))
  have hP0 := PcAt.new (w.alloc (.cells (dfaC D.cls D.width vn vl) 26)) p
  rw [show (w.alloc (.cells (dfaC D.cls D.width vn vl) 26)).heap.size = w.heap.size + 1 by simp] at hP0
  have hB0 : Below w.heap.size w ((w.alloc (.cells (dfaC D.cls D.width vn vl) 26)).alloc (.cells #[.int .i64 p.1, .string p.2] 33)) := ((Below.refl _ _).alloc (Nat.le_refl _) _).alloc (by simp) _
  have HP0 := hidden hP0
  have HFST := hidden (first16_calls p.2 (h.below hB0 hB0.size) hs)
  have HV := hidden (whole_fst D p)
  have HB0 := hidden hB0
  obtain ⟨F, hF⟩ : ∃ F, F = fstV (cutS D p.2) := ⟨_, rfl⟩
  rw [← hF] at HFST HV
  obtain ⟨⟨t, x⟩, f⟩ := F
  obtain ⟨u, y⟩ := p
  rw [← HV.out]
  dsimp only at *
  clear h hB0 hP0 hF hs HV
  obtain ⟨w0, hw0⟩ : ∃ w0, w0 = (w.alloc (.cells (dfaC D.cls D.width vn vl) 26)).alloc (.cells #[.int .i64 u, .string y] 33) := ⟨_, rfl⟩
  rw [← hw0] at HFST HP0 HB0
  go_enter Try.func16, Try.ntmps16
  go_wp2_with (refine load_dfa rfl (x := .tmp 2) rfl rfl HXR.out ?_)
  rw [← hw0]
  refine HFST.out.mono ?_
  rintro e w1 ⟨rfl, hb1⟩
  have HB1 := hidden (below_then HB0.out HB0.out.size hb1)
  have HP1 := hidden (HP0.out.below hb1)
  have c0 := HP1.out.tok
  have c1 := HP1.out.text
  have y1 : w.heap.size + 1 < w1.heap.size := HP1.out.lt
  clear hb1 hw0
  cases f
  · go_wp2
    go_ret
    exact ⟨rfl, HB1.out.alloc HB1.out.size _⟩
  · by_cases h1 : t = u
    · subst h1
      by_cases h2 : x = y
      · subst h2
        have q1 : (x.toList == x.toList) = true := by simp
        go_wp2
        go_ret
        exact ⟨rfl, HB1.out.alloc HB1.out.size _⟩
      · have q2 : (x.toList == y.toList) = false := by
          rw [beq_eq_false_iff_ne]
          intro e
          rw [ByteArray.toList_eq, ByteArray.toList_eq] at e
          exact h2 (ByteArray.ext (Array.ext' e))
        have q1 : (x == y) = false := by rw [beq_toListBytes]; exact q2
        have HE := hidden (show (true && decide ((t, x) = (t, y))) = false by simp [h2])
        clear h2
        go_wp2
        rw [HE.out]
        go_ret
        exact ⟨rfl, HB1.out.alloc HB1.out.size _⟩
    · have q1 : (t == u) = false := by simpa using h1
      have HE := hidden (show (true && decide ((t, x) = (u, y))) = false by simp [h1])
      clear h1
      go_wp2
      rw [HE.out]
      go_ret
      exact ⟨rfl, HB1.out.alloc HB1.out.size _⟩
/-- what was below n stays; what holds a piece holds one, and keeps this one -/
def RPc (n : Nat) (c : Pc) (w1 w2 : World) : Prop := Below n w1 w2 ∧ ∀ P p, PcAt w1 P p → ∃ p', PcAt w2 P p' ∧ (p = c → p' = c)
theorem RPc.refl {n : Nat} {c : Pc} {w1 : World} : RPc n c w1 w1 := ⟨Below.refl _ _, fun _ p h => ⟨p, h, id⟩⟩
theorem RPc.below {n : Nat} {c : Pc} {w1 w2 : World} (hn : n ≤ w1.heap.size) (h : Below w1.heap.size w1 w2) : RPc n c w1 w2 := ⟨h.mono hn, fun _ p hp => ⟨p, hp.below h, id⟩⟩
theorem RPc.stored {n : Nat} {t : Int} {x : ByteArray} {w1 : World} {B : Nat} {p : Pc} (hn : n ≤ B) (h : PcAt w1 B p) : RPc n (t, x) w1 ((w1.setCell ⟨B, 0, none⟩ (.int .i64 t)).setCell ⟨B, 1, none⟩ (.string x)) := by
  refine ⟨((Below.refl n w1).setCell hn _).setCell hn _, fun P q hq => ?_⟩
  by_cases e : P = B
  · subst e
    exact ⟨(t, x), h.stored (t, x), fun _ => rfl⟩
  · exact ⟨q, (hq.other e _).other e _, id⟩
set_option maxHeartbeats 4000000 in
set_option maxRecDepth 100000 in
theorem next16_calls {w : World} {vn vl : Value} {D : DfaM} (s : ByteArray) (p : Int) (h : RdDfa w.heap.size w vn vl D) (hs : s.size ≤ 200) :
    Calls Try.prog 9 #[dfaA D.cls D.width vn vl, .string s, .int .i64 p] w fun e w' => e = .returned (.tuple #[.int .i64 (nxV D s p).1, .int .i64 (nxV D s p).2]) ∧ Below w.heap.size w w' := by
  have hbx := run_box_dfa D.cls D.width vn vl
  have HX := hidden (DfaAt.new w D.cls D.width vn vl)
  obtain ⟨w0, hw0⟩ : ∃ w0, w0 = w.alloc (.cells (dfaC D.cls D.width vn vl) 26) := ⟨_, rfl⟩
  have hB0 : Below w.heap.size w w0 := by rw [hw0]; exact (Below.refl _ _).alloc (Nat.le_refl _) _
  rw [← hw0] at HX
  have HB0 := hidden hB0
  have HRD := hidden (fun W (hb : Below w0.heap.size w0 W) => h.below (below_then hB0 hB0.size hb) (Nat.le_trans hB0.size hb.size))
  clear h hB0
  by_cases p0 : p < 0
  · have HV := hidden (show nxV D s p = (-1, 0) by unfold nxV; rw [if_neg (by omega)])
    have d0 : decide (p < 0) = true := decide_eq_true p0
    clear p0
    go_enter Try.func9, Try.ntmps9
    go_wp2
    rw [HV.out, ← hw0]
    exact bodyPost_ret (results_tmp2 rfl _ _ _) rfl ⟨rfl, HB0.out⟩
  have d0 : decide (p < 0) = false := decide_eq_false p0
  by_cases p1 : (s.size : Int) ≤ p
  · have HV := hidden (show nxV D s p = (-1, 0) by unfold nxV; rw [if_neg (by omega)])
    have d1 : decide ((s.size : Int) ≤ p) = true := decide_eq_true p1
    clear p0 p1
    go_enter Try.func9, Try.ntmps9
    go_wp2
    rw [HV.out, ← hw0]
    exact bodyPost_ret (results_tmp2 rfl _ _ _) rfl ⟨rfl, HB0.out⟩
  obtain ⟨q, rfl⟩ : ∃ q : Nat, p = q := ⟨p.toNat, by omega⟩
  have hq : q < s.size := by omega
  have d1 : decide ((s.size : Int) ≤ (q : Int)) = false := decide_eq_false p1
  have d1' : decide (s.size ≤ q) = false := decide_eq_false (by omega)
  have hzz : (s.extract q s.size).size ≤ 200 := by rw [ByteArray.size_extract]; omega
  have HFST := hidden (fun W (hb : Below w0.heap.size w0 W) => first16_calls (s.extract q s.size) (HRD.out W hb) hzz)
  have HV := hidden (next_fst (D := D) hq)
  have hsl : ∀ W : World, (Instr.slice 9 (.string s) (some (.int .i64 (q : Int))) none none).run Try.prog W = .ok (.string (s.extract q s.size)) W := fun W => by
    rw [run_slice_string_l W 9 s Try.underlying9 .i64 (q : Int) (by omega) (by omega), Int.toNat_natCast]
  obtain ⟨F, hF⟩ : ∃ F, F = fstV (cutS D (s.extract q s.size)) := ⟨_, rfl⟩
  rw [← hF] at HFST HV
  obtain ⟨⟨t, x⟩, f⟩ := F
  have hxs : x.size ≤ 200 := by
    have h := fst_size D (s.extract q s.size)
    rw [← hF] at h
    dsimp only at h
    omega
  obtain ⟨z, hz⟩ : ∃ z, z = s.extract q s.size := ⟨_, rfl⟩
  rw [← hz] at HFST hsl
  dsimp only at *
  clear p0 p1 hF hz hzz
  go_enter Try.func9, Try.ntmps9
  go_wp2
  rw [← hw0]
  clear hw0 hbx d0 d1 d1'
  have HRr := hidden (fun W => RPc.refl (n := w0.heap.size) (c := (t, x)) (w1 := W))
  refine Rl.wp_region_stepsS (R := RPc w0.heap.size (t, x)) (fun _ => 8) (by kernel_rfl) (Rl.typ [Rl.Is (dfaA D.cls D.width vn vl), Rl.Is (.string s), Rl.Is (.int .i64 (q : Int)), Rl.Is (.string z), Rl.Is (.tuple #[.agg #[.int .i64 t, .string x], .bool f]), Rl.Is (.tuple #[.agg #[.int .i64 t, .string x], .bool f]), Rl.Is (.agg #[.int .i64 t, .string x]), Rl.Is (.bool f), fun v w => ∃ P, v = .pointer (some ⟨P, 0, none⟩) ∧ w0.heap.size ≤ P ∧ ∃ p, PcAt w P p, fun v w => ∃ P, v = .pointer (some ⟨P, 0, none⟩) ∧ w0.heap.size ≤ P ∧ PcAt w P (t, x), Rl.Is (.bool f)]) (fun w1 => Below w0.heap.size w0 w1) (by kernel_rfl) (by kernel_rfl) (by kernel_rfl) (by kernel_rfl) ?mono (Below.refl _ _).drew [] (by kernel_rfl) (fun g hg => by simp at hg) ?step ?fin
  case mono =>
    refine Rl.typ_mono ?_
    simp only [List.forall_mem_cons]
    repeat' (first | exact (fun v w w' h _ => h) | exact (fun v w w' h hb => by obtain ⟨P, e, h1, p, h2⟩ := h; obtain ⟨p', h3, _⟩ := hb.2 P p h2; exact ⟨P, e, h1, p', h3⟩) | exact (fun v w w' h hb => by obtain ⟨P, e, h1, h2⟩ := h; obtain ⟨p', h3, h4⟩ := hb.2 P _ h2; rw [h4 rfl] at h3; exact ⟨P, e, h1, h3⟩) | (intro p hp; cases hp; done) | refine And.intro ?_ ?_)
  case step =>
    refine ⟨?_, ?_, ?_, ?_, ?_, ?_, ?_, ?_, ?_, ?_, ?_, trivial⟩
    · intro ρ w1 hF hW
      have e0 : ρ 3 = .pointer (some ⟨w.heap.size, 0, none⟩) := hF 3 (by decide)
      have HW := hidden hW
      exact does_load_dfa16 rfl e0 (HX.out.below HW.out) ⟨rfl, HW.out, HRr.out _⟩
    · intro ρ w1 hF hW
      have e0 : ρ 1 = .string s := hF 1 (by decide)
      have HW := hidden hW
      clear hF hW
      unfold Rl.Does
      go_simp
      exact ⟨rfl, HW.out, HRr.out _⟩
    · intro ρ w1 hF hW
      have e0 : ρ 2 = .int .i64 (q : Int) := hF 2 (by decide)
      have HW := hidden hW
      clear hF hW
      unfold Rl.Does
      go_simp
      exact ⟨rfl, HW.out, HRr.out _⟩
    · intro ρ w1 hF hW
      have e0 : ρ 20 = .string s := hF 20 (by decide)
      have e1 : ρ 21 = .int .i64 (q : Int) := hF 21 (by decide)
      have HW := hidden hW
      clear hF hW
      unfold Rl.Does
      go_simp
      exact ⟨rfl, HW.out, HRr.out _⟩
    · intro ρ w1 hF hW
      have e0 : ρ 19 = dfaA D.cls D.width vn vl := hF 19 (by decide)
      have e1 : ρ 22 = .string z := hF 22 (by decide)
      have HW := hidden hW
      clear hF hW
      unfold Rl.Does
      go_simp
      refine (HFST.out _ HW.out).mono ?_
      rintro e w3 ⟨rfl, hb⟩
      exact ⟨_, rfl, rfl, below_then HW.out HW.out.size hb, RPc.below HW.out.size hb⟩
    · intro ρ w1 hF hW
      have e0 : ρ 23 = .tuple #[.agg #[.int .i64 t, .string x], .bool f] := hF 23 (by decide)
      have HW := hidden hW
      clear hF hW
      unfold Rl.Does
      go_simp
      exact ⟨rfl, HW.out, HRr.out _⟩
    · intro ρ w1 hF hW
      have e0 : ρ 18 = .tuple #[.agg #[.int .i64 t, .string x], .bool f] := hF 18 (by decide)
      have HW := hidden hW
      clear hF hW
      unfold Rl.Does
      go_simp
      exact ⟨rfl, HW.out, HRr.out _⟩
    · intro ρ w1 hF hW
      have e0 : ρ 18 = .tuple #[.agg #[.int .i64 t, .string x], .bool f] := hF 18 (by decide)
      have HW := hidden hW
      clear hF hW
      unfold Rl.Does
      go_simp
      exact ⟨rfl, HW.out, HRr.out _⟩
    · intro ρ w1 hF hW
      have HW := hidden hW
      clear hF hW
      unfold Rl.Does
      go_simp
      have hb := (Below.refl w1.heap.size w1).alloc (Nat.le_refl _) (.cells #[.int .i64 0, .string ⟨#[]⟩] 33)
      exact ⟨⟨_, rfl, HW.out.size, _, _, PcAt.new w1 (0, ⟨#[]⟩)⟩, below_then HW.out HW.out.size hb, RPc.below HW.out.size hb⟩
    · intro ρ w1 hF hW
      obtain ⟨P, e0, hP, pp, hA⟩ : ∃ P, ρ 8 = .pointer (some ⟨P, 0, none⟩) ∧ w0.heap.size ≤ P ∧ ∃ p, PcAt w1 P p := hF 8 (by decide)
      have e1 : ρ 24 = .agg #[.int .i64 t, .string x] := hF 24 (by decide)
      have HW := hidden hW
      have HA := hidden hA
      have f0 := hA.frozen 0
      have f1 := hA.frozen 1
      have r0 := hA.tok
      have r1 := hA.text
      have HP := hidden hP
      clear hF hW hA hP
      unfold Rl.Does
      go_simp
      exact ⟨⟨P, rfl, HP.out, HA.out.stored (t, x)⟩, (HW.out.setCell HP.out _).setCell HP.out _, RPc.stored HP.out HA.out⟩
    · intro ρ w1 hF hW
      have e0 : ρ 25 = .bool f := hF 25 (by decide)
      have HW := hidden hW
      clear hF hW
      unfold Rl.Does
      go_simp
      exact ⟨rfl, HW.out, HRr.out _⟩
  case fin =>
    intro a1 w1 hs hv hg hW
    obtain ⟨P, e8, hP, _⟩ : ∃ P, a1.tmps.getD 8 undef = .pointer (some ⟨P, 0, none⟩) ∧ w0.heap.size ≤ P ∧ ∃ p, PcAt w1 P p := hv 8 8 (by kernel_rfl)
    obtain ⟨P2, e82, _, hA⟩ : ∃ P, a1.tmps.getD 8 undef = .pointer (some ⟨P, 0, none⟩) ∧ w0.heap.size ≤ P ∧ PcAt w1 P (t, x) := hg 9 _ rfl rfl
    obtain rfl : P2 = P := by rw [e8] at e82; simp at e82; exact e82.symm
    have h9 : a1.tmps.getD 9 undef = .bool f := hv 10 9 (by kernel_rfl)
    have hd := hs.defers
    have hz := hs.lit [19, 20, 21, 22, 23, 18, 24, 25, 8, 9] (by kernel_rfl)
    have HA := hidden hA
    have HW := hidden (below_then HB0.out HB0.out.size hW)
    clear hs hv hW hA hP hg e82
    obtain ⟨tm, df⟩ := a1
    simp only at hz hd e8 h9
    simp only [List.foldl_cons, List.foldl_nil, List.setIfInBounds_toArray, List.set_cons_zero, List.set_cons_succ] at hz
    rw [e8, h9] at hz
    generalize tm.getD 19 undef = u19 at hz
    generalize tm.getD 20 undef = u20 at hz
    generalize tm.getD 21 undef = u21 at hz
    generalize tm.getD 22 undef = u22 at hz
    generalize tm.getD 23 undef = u23 at hz
    generalize tm.getD 18 undef = u18 at hz
    generalize tm.getD 24 undef = u24 at hz
    generalize tm.getD 25 undef = u25 at hz
    clear e8 h9
    subst hz hd
    have r0 := HA.out.tok
    have r1 := HA.out.text
    have g0 := fun (p : Later w1) => Later.cell r0 HA.out.lt p
    have g1 := fun (p : Later w1) => Later.cell r1 HA.out.lt p
    cases f
    · have HE := hidden (show nxV D s (q : Int) = (-1, 0) by rw [HV.out]; rfl)
      go_wp2
      rw [HE.out]
      exact bodyPost_ret (results_tmp2 rfl _ _ _) rfl ⟨rfl, HW.out⟩
    · have HE := hidden (show nxV D s (q : Int) = (t, (q : Int) + (x.size : Int)) by rw [HV.out]; rfl)
      have e1 : IntKind.i64.wrap ((q : Int) + (x.size : Int)) = (q : Int) + (x.size : Int) := by rw [IntKind.wrap_i64]; omega
      go_wp2
      refine wp_region_later (by kernel_rfl) (by kernel_rfl) ?_
      repeat (go_big_quiet_step (fail))
      refine wpQuiet_nil ?_
      rintro _ ⟨⟨_, hb9⟩, rfl⟩
      rename_i w9
      go_wp2
      rw [HE.out]
      exact bodyPost_ret (results_tmp2 rfl _ _ _) rfl ⟨rfl, below_then HW.out HW.out.size hb9⟩
end Go.Proofs.Ytgaadndhecokfaa

/- Texts and their cells. -/
namespace Go.Proofs.Ytgaadndhecokfaa
open Go.RowKit Go.Lib

theorem strCells_add (s t : ByteArray) : strCells (s ++ t) = strCells s ++ strCells t := by
  simp [strCells, ByteArray.data_append]
end Go.Proofs.Ytgaadndhecokfaa

/- Contracts of Bytes, the program's and the reference's: the bytes of a class as a row of the call's own. -/
namespace Go.Proofs.Ytgaadndhecokfaa
open Go.RowKit

theorem below_grown {B : Nat} {a w w' : World} {base : Nat} {e : TypeId} {size : Nat} {v : Value} {n : Nat} {xs : List Value} (h : Below B a w) (hown : w.ownsRow base e size v n xs) (hg : w.grownBy w' v.ownBlock) (hB : B ≤ base) (hw : B ≤ w.heap.size) : Below B a w' :=
  h.grown hg hw fun k hk => Nat.le_trans hB (hown.lt k hk).1
theorem ArrAt.grown {w w' : World} {B base : Nat} {t e : TypeId} {size : Nat} {v : Value} {n : Nat} {xs : List Value} {u : Nat → Value} (h : ArrAt w B t u) (hown : w.ownsRow base e size v n xs) (hg : w.grownBy w' v.ownBlock) (hB : B < base) : ArrAt w' B t u := by
  refine (hg.block B h.lt fun e => ?_).trans h
  have := (hown.lt B e.symm).1
  omega
def byteV (n : Nat) : Value := .int .u8 n
theorem infoByte : (Try.prog.info? 5).map (fun i => (i.zero, i.size, i.bytes)) = some (some (.int .u8 0), 1, 1) := by kernel_rfl

/-- a slice of the call's own comes back, with these cells -/
def RetRow (base : Nat) (E : TypeId) (size n : Nat) (xs : List Value) (w : World) (e : Ending) (w' : World) : Prop := ∃ v, e = .returned v ∧ w'.ownsRow base E size v n xs ∧ Below w.heap.size w w'
theorem take_more (f : Nat → Bool) (k : Nat) (h : f k = true) : ((List.range k).filter f) ++ [k] = (List.range (k + 1)).filter f := by
  rw [List.range_succ, List.filter_append]
  simp [h]
theorem take_same (f : Nat → Bool) (k : Nat) (h : f k = false) : (List.range k).filter f = (List.range (k + 1)).filter f := by
  rw [List.range_succ, List.filter_append]
  simp [h]
theorem filter_le (f : Nat → Bool) (k : Nat) : ((List.range k).filter f).length ≤ k := by
  have := List.length_filter_le f (List.range k)
  simpa using this
def GotB (f : Nat → Bool) (k base : Nat) (v : Value) (w : World) : Prop := w.ownsRow base 5 1 v ((List.range k).filter f).length (((List.range k).filter f).map byteV)
theorem gotB_step {f : Nat → Bool} {k base : Nat} {v : Value} {w : World} (h : f k = true) (hw : w.ownsRow base 5 1 v (((List.range k).filter f).length + 1) (((List.range k).filter f).map byteV ++ [.int .u8 k])) : GotB f (k + 1) base v w := by
  unfold GotB
  rw [← take_more f k h]
  simpa [byteV] using hw

theorem news_one {w : World} {x u : Value} {t : TypeId} {j : Nat} (hj : [x][j]? = some u) : (w.alloc (.cells #[x] t)).cell? ((⟨w.heap.size, 0, none⟩ : Addr).add j) = some u := by
  match j, hj with
  | 0, hj =>
    simp at hj
    subst hj
    rw [Addr.add_lit, World.cell?_alloc_at _ _ _ _ rfl]
    rfl

/-- of class c -/
def clsF (g : Nat → Nat) (c : Int) (b : Nat) : Bool := decide ((g b : Int) = c)
/-- the bytes of class c -/
def lstC (g : Nat → Nat) (c : Int) : List Nat := (List.range 256).filter (clsF g c)
set_option maxRecDepth 100000 in
theorem rbytes_calls (g : Nat → Nat) (c : Int) (w : World) (hg : ∀ j, j < 256 → g j < 256) :
    Calls Try.prog 34 #[ar g, .int .i64 c] w (RetRow (w.heap.size + 1) 5 1 (lstC g c).length ((lstC g c).map byteV) w) := by
  obtain ⟨i0, hi, hz0, hz1, hz2⟩ := info_parts infoByte
  have HI := hidden hi
  have HZ := hidden (And.intro hz0 (And.intro hz1 hz2))
  have HH := hidden hg
  clear hi hz0 hz1 hz2 hg
  have hbx := run_box_arr g
  go_enter Try.func34, Try.ntmps34
  go_wp2
  go_loopw [5, 6] (fun v i wr => ∃ k : Nat, k ≤ 256 ∧ i = .int .i64 k ∧ GotB (clsF g c) k (w.heap.size + 1) v wr ∧ ArrAt wr w.heap.size 22 (nV g) ∧ Below w.heap.size w wr ∧ w.heap.size + 1 ≤ wr.heap.size) (fun _ i _ => 256 - (Go.RowKit.intOf i).toNat)
  case atStart =>
    exact ⟨0, by omega, rfl, ⟨rfl, .inr ⟨_, 0, #[], rfl, Nat.le_refl _, heap_alloc2_new _ _ _, Nat.le_refl _, by decide, rfl, rfl⟩⟩, (ArrAt.new w _ _).alloc _, by go_grown, by simp⟩
  case round =>
    obtain ⟨k, hk, rfl, hG, hS, hb, hz⟩ := hrel
    by_cases hlt : k < 256
    · have hc := hS.cell hlt
      unfold nV at hc
      have hgk := HH.out k hlt
      have hwr : IntKind.u8.wrap (k : Int) = k := by rw [IntKind.wrap_u8]; omega
      have HS := hidden hS
      have HG := hidden hG
      have HB := hidden hb
      clear hS hG hb
      by_cases he : (g k : Int) = c
      · have hf : clsF g c k = true := by simp [clsF, he]
        have HF := hidden hf
        have hq : ((g k : Int) == c) = true := by simp [he]
        clear hf he
        have hle := filter_le (clsF g c) k
        go_wp2_with (at_builtin; refine wpList_append_own _ rfl _ _ 66 rfl (w.heap.size + 1) 5 i0 (.int .u8 0) 1 1 Try.underlying66 HI.out HZ.out.1 HZ.out.2.1 HZ.out.2.2 rfl (by decide) _ _ _ rfl (HG.out.alloc _) ⟨wr.heap.size, 0, none⟩ 1 1 [.int .u8 k] rfl rfl ?c1 ?c2 ?c3 ?c4 ?c5 ?_)
        case c1 => exact fun j u hj => news_one hj
        case c2 => exact fun u hu => by simp at hu; subst hu; rfl
        case c3 => unfold maxLen; omega
        case c4 => omega
        case c5 => simp; omega
        intro v2 w2 hown2 hgrow2 _
        have HO := hidden (HG.out.alloc (.cells #[.int .u8 k] 5))
        have HR := hidden hown2
        have HS2 := hidden ((HS.out.alloc (.cells #[.int .u8 k] 5)).grown HO.out hgrow2 (Nat.lt_succ_self _))
        have HB2 := hidden (below_grown (HB.out.alloc HB.out.size (.cells #[.int .u8 k] 5)) HO.out hgrow2 (Nat.le_succ _) (by simp; omega))
        have s2 := hgrow2.size
        simp at s2
        clear hown2 hgrow2
        go_wp2
        exact ⟨⟨k + 1, by omega, by go_num, gotB_step HF.out HR.out, HS2.out, HB2.out, by omega⟩, by simp [Go.RowKit.intOf]; omega⟩
      · have hf : clsF g c k = false := by simp [clsF, he]
        have HF := hidden hf
        have hq : ((g k : Int) == c) = false := by simp [he]
        clear hf he
        go_wp2
        refine ⟨⟨k + 1, by omega, by go_num, ?_, HS.out, HB.out, hz⟩, by simp [Go.RowKit.intOf]; omega⟩
        unfold GotB
        rw [← take_same (clsF g c) k HF.out]
        exact HG.out
    · have e : k = 256 := by omega
      subst e
      have HG := hidden hG
      have HB := hidden hb
      clear hG hS hb
      go_wp2
      go_ret
      exact ⟨_, rfl, HG.out, HB.out⟩

end Go.Proofs.Ytgaadndhecokfaa

/- Contracts of strings.Builder's methods at this program: copyCheck, WriteByte, WriteString, String, over a builder that the call has laid itself. -/
namespace Go.Proofs.Ytgaadndhecokfaa
open Go.RowKit Go.Lib

theorem sizeBuilder : (Try.prog.info? 68).map (·.size) = some 2 := by kernel_rfl
theorem liesBuilder : liesAt Try.prog Try.prog.depth 68 (2 / Try.prog.cellsOf 68) 0 68 1 = true := by kernel_rfl

/-- a builder in block b that holds the text s -/
def Holds (w : World) (B b : Nat) (s : ByteArray) : Prop := IsBuilderF 68 5 B b (strCells s) w
/-- the same, used -/
def Used (w : World) (B b : Nat) (s : ByteArray) : Prop := BuilderAtF 68 5 B b (.pointer (some ⟨b, 0, none⟩)) (strCells s) w

set_option maxHeartbeats 1000000 in
set_option maxRecDepth 100000 in
theorem check_used (b : Nat) (w : World) (h0 : w.cell? ⟨b, 0, none⟩ = some (.pointer (some ⟨b, 0, none⟩))) :
    Calls Try.prog 49 #[.pointer (some ⟨b, 0, none⟩)] w fun e w' => e = .returned (.tuple #[]) ∧ w = w' := by
  obtain ⟨j, hj, _⟩ := Option.map_eq_some_iff.1 sizeBuilder
  go_enter Try.func49, Try.ntmps49
  go_wp2
  rw [run_neq_ptr_same w _ Try.underlying65 hj]
  go_wp2
  go_end0
  exact ⟨rfl, rfl⟩
set_option maxHeartbeats 1000000 in
set_option maxRecDepth 100000 in
theorem check_fresh (b : Nat) (w : World) (h0 : w.cell? ⟨b, 0, none⟩ = some (.pointer none)) (hsh : w.shape? b = some (68, 2)) (hfz : w.frozen? ⟨b, 0, none⟩ = false) :
    Calls Try.prog 49 #[.pointer (some ⟨b, 0, none⟩)] w fun e w' => e = .returned (.tuple #[]) ∧ w.setCell ⟨b, 0, none⟩ (.pointer (some ⟨b, 0, none⟩)) = w' := by
  obtain ⟨j, hj, hjs⟩ := Option.map_eq_some_iff.1 sizeBuilder
  go_enter Try.func49, Try.ntmps49
  go_wp2
  rw [run_to_unsafe w ⟨b, 0, none⟩ Try.underlying65 Try.underlying117 hj (by rw [hjs]; decide) hsh (Nat.zero_lt_succ 1)]
  simp only [Result.andThen]
  rw [Oper.upon_value]
  go_wp2
  rw [run_callFunc_extern Try.func63 (by kernel_rfl) (by kernel_rfl) (by kernel_rfl) (e := Extern.AbiNoEscape.same) (by kernel_rfl)]
  rw [run_noEscape]
  simp only [Result.andThen]
  rw [Oper.upon_value]
  go_wp2
  rw [run_from_unsafe w ⟨b, 0, none⟩ Try.underlying117 Try.underlying65 hj hsh liesBuilder]
  simp only [Result.andThen]
  rw [Oper.upon_value]
  go_wp2
  go_end0
  exact ⟨rfl, rfl⟩
theorem check_calls {B b : Nat} {s : ByteArray} {w : World} (h : Holds w B b s) :
    Calls Try.prog 49 #[.pointer (some ⟨b, 0, none⟩)] w fun e w' => e = .returned (.tuple #[]) ∧ Used w' B b s ∧ Below B w w' := by
  rcases h with h | h
  · refine (check_fresh b w h.cell0 h.shape h.frozen0).mono ?_
    rintro e w' ⟨rfl, rfl⟩
    exact ⟨rfl, h.used _, (Below.refl B w).setCell (p := ⟨b, 0, none⟩) h.1 _⟩
  · refine (check_used b w h.cell0).mono ?_
    rintro e w' ⟨rfl, rfl⟩
    exact ⟨rfl, h, Below.refl B _⟩

/-- a builder behind a store of its grown row -/
theorem used_put {B b : Nat} {t : ByteArray} {w w1 w2 : World} {v v' : Value} (hB : B ≤ b) (hlow : Below B w w1) (hbl : B ≤ w1.heap.size) (hbk : w1.heap[b]? = some (.cells #[.pointer (some ⟨b, 0, none⟩), v] 68 (0, 0)))
    (hne : v.ownBlock ≠ some b) (hown : ∀ k, v.ownBlock = some k → B ≤ k) (hg : w1.grownBy w2 v.ownBlock) (hown' : w2.ownsRowF B 5 1 v' (strCells t).length (strCells t)) :
    Holds (w2.setCell ⟨b, 1, none⟩ v') B b t ∧ Below B w (w2.setCell ⟨b, 1, none⟩ v') := by
  have hlt : b < w1.heap.size := by
    rcases Nat.lt_or_ge b w1.heap.size with h' | h'
    · exact h'
    · simp [Array.getElem?_eq_none h'] at hbk
  have hb2 : w2.heap[b]? = some (.cells #[.pointer (some ⟨b, 0, none⟩), v] 68 (0, 0)) := by
    rw [hg.block b hlt (fun e => hne e.symm)]
    exact hbk
  exact ⟨.inr (BuilderAtF.put (T := 68) (e := 5) hB hb2 (bs' := strCells t) hown' (by decide)), (hlow.grown hg hbl hown).setCell (p := ⟨b, 1, none⟩) hB _⟩

set_option maxHeartbeats 2000000 in
set_option maxRecDepth 100000 in
theorem wstring_calls {B b : Nat} {s : ByteArray} {w : World} (h : Holds w B b s) (t : ByteArray) (hs : s.size ≤ 1073741824) (ht : t.size ≤ 1073741824) (hBw : B ≤ w.heap.size) :
    Calls Try.prog 27 #[.pointer (some ⟨b, 0, none⟩), .string t] w fun e w' => e = .returned (.tuple #[.int .i64 t.size, .nilIface]) ∧ Holds w' B b (s ++ t) ∧ Below B w w' := by
  obtain ⟨i0, hi, hz0, hz1, hz2⟩ := info_parts infoByte
  have hl : (strCells s).length = s.size := strCells_length s
  go_enter Try.func27, Try.ntmps27
  go_wp2_with fail
  refine (check_calls h).mono ?_
  rintro e w1 ⟨rfl, h1, hb1⟩
  obtain ⟨hB, v, hbk, hown, hne⟩ := h1
  have c1 : w1.cell? ⟨b, 1, none⟩ = some v := by rw [cell_of_heap hbk]; rfl
  have hbl : B ≤ w1.heap.size := Nat.le_trans hBw hb1.size
  rw [hl] at hown
  go_wp2_with (at_builtin; refine wpList_append_own_stringF _ rfl _ _ 66 9 rfl B 5 i0 Try.underlying66 Try.underlying9 hi hz0 hz1 hz2 _ _ _ rfl hown t rfl ?c3 ?c4 hbl ?_)
  case c3 => unfold maxLen; omega
  case c4 => omega
  intro v' w2 hown' hg _
  have hfz : w2.frozen? ⟨b, 1, none⟩ = false := by
    refine frozen_of_heap (cs := #[.pointer (some ⟨b, 0, none⟩), v]) (T := 68) ?_ 1
    rw [hg.block b (by
      rcases Nat.lt_or_ge b w1.heap.size with h' | h'
      · exact h'
      · simp [Array.getElem?_eq_none h'] at hbk) (fun e => hne e.symm)]
    exact hbk
  have d1 : w2.cell? ⟨b, 1, none⟩ = some v := by
    rw [cell_of_heap (cs := #[.pointer (some ⟨b, 0, none⟩), v]) (T := 68) (fr := (0, 0))]
    · rfl
    · rw [hg.block b (by
        rcases Nat.lt_or_ge b w1.heap.size with h' | h'
        · exact h'
        · simp [Array.getElem?_eq_none h'] at hbk) (fun e => hne e.symm)]
      exact hbk
  have H := hidden (used_put (t := s ++ t) hB hb1 hbl hbk hne (fun k hk => (hown.lt k hk).1) hg (by rw [strCells_length, ByteArray.size_append, strCells_add]; exact hown'))
  obtain ⟨ao, n', cap, rfl⟩ : ∃ ao n' cap, v' = .slice ao n' cap := by
    rcases hown'.2 with ⟨hv, _⟩ | ⟨g, cap, cur, fz, hv, _⟩
    · exact ⟨_, _, _, hv⟩
    · exact ⟨_, _, _, hv⟩
  clear hown hown' hg hbk hb1 hl
  go_wp2
  go_ret2
  exact ⟨rfl, H.out⟩

end Go.Proofs.Ytgaadndhecokfaa
