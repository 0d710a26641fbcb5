/- DfSame, MuRNext, MuRCut, DfPRight, put together. -/
import Derived.Test.YtgaadndhecokfaaMu14
import Derived.Test.YtgaadndhecokfaaMu20
import Derived.Test.YtgaadndhecokfaaMu13
/- Contracts of the reference's Label, and of its Same at two machines that read as one. -/
namespace Go.Proofs.Ytgaadndhecokfaa
open Go.RowKit

set_option maxHeartbeats 2000000 in
set_option maxRecDepth 100000 in
theorem rlabel_calls {w : World} {vn vl : Value} {D : DfaM} (s : Int) (h : RdDfa w.heap.size w vn vl D) :
    Calls Try.prog 19 #[dfaA D.cls D.width vn vl, .int .i64 s] w fun e w' => e = .returned (.int .i64 (labelD D s)) ∧ Below w.heap.size w w' := by
  obtain ⟨al, cl, rfl⟩ := h.label.form
  have hbl : D.label.length ≤ 9223372036854775807 := by
    obtain ⟨_, _, e, h1, h2, _⟩ := h.label
    unfold maxLen at h2
    omega
  have HR := hidden (fun w' (hb : Below w.heap.size w w') => rright14_calls (h.below hb hb.size))
  obtain ⟨m, hm⟩ : ∃ m, m = D.label.length := ⟨_, rfl⟩
  rw [← hm] at hbl h HR ⊢
  have HM := hidden hm
  have HD := hidden h
  have HX := hidden (DfaAt.new w D.cls D.width vn (.slice al m cl))
  have HB0 := hidden ((Below.refl w.heap.size w).alloc (Nat.le_refl _) (.cells (dfaC D.cls D.width vn (.slice al m cl)) 26))
  have hbx := run_box_dfa D.cls D.width vn (.slice al m cl)
  clear h hm
  go_enter Try.func19, Try.ntmps19
  go_wp2_with (refine load_dfa rfl (x := .tmp 2) rfl rfl HX.out ?_)
  refine (HR.out _ HB0.out).mono ?_
  rintro e w1 ⟨rfl, hb1⟩
  have HX1 := hidden (HX.out.below hb1)
  have HB1 := hidden (below_then HB0.out HB0.out.size hb1)
  have e3 := (HX.out.below hb1).label
  clear hb1
  cases hr : rightD D with
  | false =>
    have HF := hidden (show labelD D s = -1 by unfold labelD; rw [if_neg (by simp [hr])])
    clear hr
    go_wp2
    go_ret
    exact ⟨ret_i HF.out.symm, HB1.out⟩
  | true =>
    have HRT := hidden hr
    clear hr
    by_cases h0 : s < 0
    · have HF := hidden (show labelD D s = -1 by unfold labelD; rw [if_neg (by omega)])
      go_wp2
      go_ret
      exact ⟨ret_i HF.out.symm, HB1.out⟩
    · by_cases h1 : s < m
      · obtain ⟨j, rfl⟩ : ∃ j : Nat, s = j := ⟨s.toNat, by omega⟩
        have hj : j < m := by omega
        have HF := hidden (show labelD D (j : Int) = D.label.getD j 0 by unfold labelD; rw [if_pos ⟨HRT.out, by omega, by rw [← HM.out]; omega⟩]; rfl)
        obtain ⟨b, off, rfl, hbb, hc⟩ := (HM.out ▸ HD.out.label).atZ HB1.out j (by rw [← HM.out]; exact hj)
        generalize D.label.getD j 0 = x at *
        go_wp2
        go_ret
        exact ⟨ret_i HF.out.symm, HB1.out⟩
      · have HF := hidden (show labelD D s = -1 by unfold labelD; rw [if_neg (by rw [← HM.out]; omega)])
        go_wp2
        go_ret
        exact ⟨ret_i HF.out.symm, HB1.out⟩

end Go.Proofs.Ytgaadndhecokfaa

/- Contract of the reference's Next of a text's pieces. -/
namespace Go.Proofs.Ytgaadndhecokfaa
open Go.RowKit Go.Lib Go.Joins

set_option maxHeartbeats 4000000 in
set_option maxRecDepth 100000 in
theorem rnext16_calls {w : World} {vn vl : Value} {D : DfaM} (s : ByteArray) (p : Int) (h : RdDfa w.heap.size w vn vl D) (hs : s.size ≤ 1000) :
    Calls Try.prog 10 #[dfaA D.cls D.width vn vl, .string s, .int .i64 p] w fun e w' => e = .returned (.tuple #[.int .i64 (nxV D s p).1, .int .i64 (nxV D s p).2]) ∧ Below w.heap.size w w' := by
  have HR := hidden (fun W (hb : Below w.heap.size w W) => rright14_calls (h.below hb hb.size))
  have HRUN := hidden (fun W (hb : Below w.heap.size w W) (u : ByteArray) (hu : u.size ≤ maxLen) => (show Calls Try.prog 20 #[dfaA D.cls D.width vn vl, .string u] W fun e w' => e = .returned (.int .i64 (runD D (bys u))) ∧ Below W.heap.size W w' from rrun14_calls u (h.below hb hb.size) hu))
  have HLAB := hidden (fun W (hb : Below w.heap.size w W) (x : Int) => rlabel_calls x (h.below hb hb.size))
  have HX := hidden (DfaAt.new w D.cls D.width vn vl)
  have HB0 := hidden ((Below.refl w.heap.size w).alloc (Nat.le_refl _) (.cells (dfaC D.cls D.width vn vl) 26))
  have hbx := run_box_dfa D.cls D.width vn vl
  clear h
  cases hr : rightD D with
  | false =>
    have HV := hidden (show nxV D s p = (-1, 0) by unfold nxV; rw [if_neg (by simp [hr])])
    rw [hr] at HR
    clear hr
    go_enter Try.func10, Try.ntmps10
    go_wp2_with (refine load_dfa rfl (x := .tmp 3) rfl rfl HX.out ?_)
    refine (HR.out _ HB0.out).mono ?_
    rintro e w1 ⟨rfl, hb1⟩
    go_wp2
    rw [HV.out]
    exact bodyPost_ret (results_tmp2 rfl _ _ _) rfl ⟨rfl, below_then HB0.out HB0.out.size hb1⟩
  | true =>
    have HRT := hidden hr
    rw [hr] at HR
    clear hr
    by_cases p0 : p < 0
    · have HV := hidden (show nxV D s p = (-1, 0) by unfold nxV; rw [if_neg (by omega)])
      have d0 : decide (p < 0) = true := decide_eq_true p0
      clear p0
      go_enter Try.func10, Try.ntmps10
      go_wp2_with (refine load_dfa rfl (x := .tmp 3) rfl rfl HX.out ?_)
      refine (HR.out _ HB0.out).mono ?_
      rintro e w1 ⟨rfl, hb1⟩
      go_wp2
      rw [HV.out]
      exact bodyPost_ret (results_tmp2 rfl _ _ _) rfl ⟨rfl, below_then HB0.out HB0.out.size hb1⟩
    have d0 : decide (p < 0) = false := decide_eq_false p0
    by_cases p1 : (s.size : Int) ≤ p
    · have HV := hidden (show nxV D s p = (-1, 0) by unfold nxV; rw [if_neg (by omega)])
      have d1 : decide ((s.size : Int) ≤ p) = true := decide_eq_true p1
      clear p0 p1
      go_enter Try.func10, Try.ntmps10
      go_wp2_with (refine load_dfa rfl (x := .tmp 3) rfl rfl HX.out ?_)
      refine (HR.out _ HB0.out).mono ?_
      rintro e w1 ⟨rfl, hb1⟩
      go_wp2
      rw [HV.out]
      exact bodyPost_ret (results_tmp2 rfl _ _ _) rfl ⟨rfl, below_then HB0.out HB0.out.size hb1⟩
    obtain ⟨q, rfl⟩ : ∃ q : Nat, p = q := ⟨p.toNat, by omega⟩
    have hq : q < s.size := by omega
    have d1 : decide ((s.size : Int) ≤ (q : Int)) = false := decide_eq_false p1
    have d1' : decide (s.size ≤ q) = false := decide_eq_false (by omega)
    clear p0 p1
    obtain ⟨u, hu⟩ : ∃ u, u = s.data.toList.drop q := ⟨_, rfl⟩
    have hul : u.length = s.size - q := by rw [hu, List.length_drop, list_len]
    have HV := hidden (show nxV D s q = ((nxP D u).1, (q : Int) + (nxP D u).2) by unfold nxV; rw [if_pos ⟨HRT.out, by omega, by omega⟩, hu]; rfl)
    have HU := hidden hu
    have HL := hidden hul
    have HBYN := hidden (show ∀ k, bys (s.extract q (q + k)) = (u.take k).map UInt8.toNat from fun k => by unfold bys; rw [part_list, hu, show q + k - q = k by omega])
    clear hu
    go_enter Try.func10, Try.ntmps10
    go_wp2_with (refine load_dfa rfl (x := .tmp 3) rfl rfl HX.out ?_)
    refine (HR.out _ HB0.out).mono ?_
    rintro e w1 ⟨rfl, hb1⟩
    have HX1 := hidden (HX.out.below hb1)
    have HB1 := hidden (below_then HB0.out HB0.out.size hb1)
    clear hb1
    go_wp2
    go_loopw [8, 9] (fun e _ wr => ∃ k : Nat, k ≤ u.length ∧ e = .int .i64 ((q + k : Nat) : Int) ∧ nxP D u = nxG D u k ∧ Below w1.heap.size w1 wr) (fun e _ _ => (Go.RowKit.intOf e).toNat)
    case atStart => exact ⟨u.length, Nat.le_refl _, by rw [HL.out]; congr 1; omega, rfl, Below.refl _ _⟩
    case round =>
      obtain ⟨k, hk, rfl, hn, hb⟩ := hrel
      have HN := hidden hn
      have HB := hidden hb
      clear hn hb
      rcases k with _ | k
      · have HF := hidden (show nxV D s q = (-1, (q : Int) + 1) by rw [HV.out, HN.out]; rfl)
        have d2 : decide ((q : Int) < ((q + 0 : Nat) : Int)) = false := decide_eq_false (by omega)
        have d2' : decide (q < q + 0) = false := decide_eq_false (by omega)
        have e1 : IntKind.i64.wrap ((q : Int) + 1) = (q : Int) + 1 := by rw [IntKind.wrap_i64]; omega
        clear hk
        go_wp2
        rw [HF.out]
        exact bodyPost_ret (results_tmp2 rfl _ _ _) rfl ⟨rfl, below_then HB1.out HB1.out.size HB.out⟩
      · obtain ⟨j, hj⟩ : ∃ j : Nat, j = q + (k + 1) := ⟨_, rfl⟩
        rw [← hj]
        have hjs : j ≤ s.size := by rw [HL.out] at hk; omega
        have hqj : q < j := by omega
        have d2 : decide ((q : Int) < (j : Int)) = true := decide_eq_true (by omega)
        have d2' : decide (q < j) = true := decide_eq_true hqj
        have HBY := hidden (show bys (s.extract q j) = (u.take (k + 1)).map UInt8.toNat from by rw [hj]; exact HBYN.out (k + 1))
        have hsl : ∀ W : World, (Instr.slice 9 (.string s) (some (.int .i64 (q : Int))) (some (.int .i64 (j : Int))) none).run Try.prog W = .ok (.string (s.extract q j)) W := fun W => by
          rw [run_slice_string W 9 s .i64 .i64 (q : Int) (j : Int) Try.underlying9 (by omega) (by omega) (by omega), Int.toNat_natCast, Int.toNat_natCast]
        have HJ := hidden hj
        have HK := hidden hk
        have HXR := hidden (HX1.out.below HB.out)
        have HBR := hidden (below_then HB1.out HB1.out.size HB.out)
        have HLD := hidden (show ∀ w', (∃ p : Later wr, w' = p.at') → (loadVar 26 ⟨w.heap.size, 0, none⟩).run Try.prog w' = .ok (dfaA D.cls D.width vn vl) w' from fun w' ⟨p, e⟩ => by subst e; exact run_load_dfa (HXR.out.below p.ok))
        have HSZ := hidden (show (s.extract q j).size ≤ maxLen by rw [ByteArray.size_extract]; have : 1000 ≤ maxLen := by decide
                                                                  omega)
        have HRU := hidden (show ∀ (p : Later wr), Calls Try.prog 20 #[dfaA D.cls D.width vn vl, .string (s.extract q j)] p.at' fun e w' => e = .returned (.int .i64 (runD D (bys (s.extract q j)))) ∧ Below p.at'.heap.size p.at' w' from fun p => HRUN.out _ (below_then HBR.out HBR.out.size p.ok) _ HSZ.out)
        have HLA := hidden (show ∀ (p : Later wr), Calls Try.prog 19 #[dfaA D.cls D.width vn vl, .int .i64 (runD D (bys (s.extract q j)))] p.at' fun e w' => e = .returned (.int .i64 (labelD D (runD D (bys (s.extract q j))))) ∧ Below p.at'.heap.size p.at' w' from fun p => HLAB.out _ (below_then HBR.out HBR.out.size p.ok) _)
        have HLW := hidden (show labelD D (runD D (bys (s.extract q j))) = labW D (u.take (k + 1)) from by rw [HBY.out]; rfl)
        obtain ⟨st, hst⟩ : ∃ st, st = runD D (bys (s.extract q j)) := ⟨_, rfl⟩
        rw [← hst] at HRU HLA HLW
        obtain ⟨lb, hlb⟩ : ∃ lb, lb = labelD D st := ⟨_, rfl⟩
        rw [← hlb] at HLA HLW
        obtain ⟨x, hx⟩ : ∃ x, x = s.extract q j := ⟨_, rfl⟩
        rw [← hx] at HRU hsl
        clear hst hlb hx hj hk HBY HSZ
        go_wp2
        refine wp_region_later (by kernel_rfl) (by kernel_rfl) ?_
        repeat (first
          | (go_big_quiet_want; (refine quiet_load (x := .tmp 3) rfl rfl HLD.out ?_); simp only [Act.put, List.setIfInBounds_toArray, List.set_cons_zero, List.set_cons_succ]; go_big_quiet_on)
          | go_big_quiet_step ((first | (go_at_call 20; exact Later.calls (HRU.out _)) | (go_at_call 19; exact Later.calls (HLA.out _)))))
        refine wpQuiet_nil ?_
        rintro _ ⟨⟨_, hb5⟩, rfl⟩
        rename_i w5
        have HB5 := hidden (below_then HB.out HB.out.size hb5)
        clear hb5
        by_cases hl : 0 ≤ lb
        · have d3 : decide (0 ≤ lb) = true := decide_eq_true hl
          have HF := hidden (show nxV D s q = (lb, (j : Int)) by rw [HV.out, HN.out, nxG_more, ← HLW.out, if_pos hl, HJ.out]; rfl)
          clear hl
          go_wp2
          rw [HF.out]
          exact bodyPost_ret (results_tmp2 rfl _ _ _) rfl ⟨rfl, below_then HB1.out HB1.out.size HB5.out⟩
        · have d3 : decide (0 ≤ lb) = false := decide_eq_false hl
          have HF := hidden (show nxP D u = nxG D u k by rw [HN.out, nxG_more, ← HLW.out, if_neg hl])
          clear hl
          go_wp2
          go_roundw
          case rel => exact ⟨k, by have := HK.out; omega, by have := HJ.out; go_num, HF.out, HB5.out⟩
          case measure => show ((j : Int) - 1).toNat < (j : Int).toNat; omega
end Go.Proofs.Ytgaadndhecokfaa

/- Contract of the reference's Cut. -/
namespace Go.Proofs.Ytgaadndhecokfaa
open Go.RowKit Go.Lib Go.Joins

/-- what a call that makes pieces hands back -/
def RetP (w : World) (l : List Pc) (e : Ending) (w' : World) : Prop := ∃ v, e = .returned v ∧ RowP w' w.heap.size v l ∧ Below w.heap.size w w'
theorem cut_len {D : DfaM} : ∀ (m : Nat) (u : List UInt8), u.length = m → (cutP D u).length ≤ m := by
  intro m
  induction m using Nat.strongRecOn with
  | _ m ih =>
    intro u hm
    by_cases hu : u = []
    · subst hu; simp [cut_nil]
    · have h := nx_len (D := D) hu
      rw [cut_step hu, List.length_cons]
      have := ih (u.drop (nxP D u).2).length (by rw [List.length_drop]; omega) _ rfl
      rw [List.length_drop] at this
      omega
/-- one piece behind another: pre has come, k bytes of the text are cut -/
theorem cut_more {D : DfaM} {s : ByteArray} {k : Nat} {pre : List Pc} (hk : k < s.size) (h : (cutP D s.data.toList).map pk = pre ++ (cutP D (s.data.toList.drop k)).map pk) :
    1 ≤ (nxP D (s.data.toList.drop k)).2 ∧ k + (nxP D (s.data.toList.drop k)).2 ≤ s.size ∧
    (cutP D s.data.toList).map pk = (pre ++ [((nxP D (s.data.toList.drop k)).1, s.extract k (k + (nxP D (s.data.toList.drop k)).2))]) ++ (cutP D (s.data.toList.drop (k + (nxP D (s.data.toList.drop k)).2))).map pk ∧ pre.length < ((cutP D s.data.toList).map pk).length := by
  have hne : s.data.toList.drop k ≠ [] := fun e => by
    have := congrArg List.length e
    rw [List.length_drop, list_len] at this
    simp at this
    omega
  have hl := nx_len (D := D) hne
  rw [List.length_drop, list_len] at hl
  have e := cut_step (D := D) hne
  obtain ⟨n, hn⟩ : ∃ n, n = (nxP D (s.data.toList.drop k)).2 := ⟨_, rfl⟩
  have hp : pk ((nxP D (s.data.toList.drop k)).1, (s.data.toList.drop k).take n) = ((nxP D (s.data.toList.drop k)).1, s.extract k (k + n)) := by
    unfold pk
    rw [txt_extract, List.drop_take, show k + n - k = n by omega]
  rw [← hn] at hl e ⊢
  rw [e, List.map_cons, hp, List.drop_drop] at h
  refine ⟨hl.1, by omega, by rw [h]; simp, by rw [h]; simp⟩
set_option maxHeartbeats 4000000 in
set_option maxRecDepth 100000 in
theorem rcut16_calls {w : World} {vn vl : Value} {D : DfaM} (s : ByteArray) (h : RdDfa w.heap.size w vn vl D) (hs : s.size ≤ 1000) :
    Calls Try.prog 13 #[dfaA D.cls D.width vn vl, .string s] w (RetP w (cutS D s)) := by
  have HX0 := hidden (DfaAt.new w D.cls D.width vn vl)
  have hbx := run_box_dfa D.cls D.width vn vl
  obtain ⟨w0, hw0⟩ : ∃ w0, w0 = w.alloc (.cells (dfaC D.cls D.width vn vl) 26) := ⟨_, rfl⟩
  have hs0 : w0.heap.size = w.heap.size + 1 := by rw [hw0]; simp
  have HB0 := hidden (show Below w.heap.size w w0 by rw [hw0]; exact (Below.refl _ _).alloc (Nat.le_refl _) _)
  have HR := hidden (fun W (hb : Below w.heap.size w W) => rright14_calls (h.below hb hb.size))
  have HNX := hidden (fun W (hb : Below w.heap.size w W) (p : Int) => rnext16_calls s p (h.below hb hb.size) hs)
  rw [← hw0] at HX0
  have HX := HX0
  have HP0 := hidden (RowP.lit w0 w0.heap.size (Nat.le_refl _))
  have HB1 := hidden ((Below.refl w0.heap.size w0).alloc (Nat.le_refl _) (.cells #[] 33))
  obtain ⟨w1, hw1⟩ : ∃ w1, w1 = w0.alloc (.cells #[] 33) := ⟨_, rfl⟩
  rw [← hw1] at HP0 HB1
  have HS0 := hidden hs0
  have HXR := hidden ((DfaAt.new w D.cls D.width vn vl).alloc (.cells #[] 33))
  clear h
  cases hr : rightD D with
  | false =>
    have HV := hidden (show cutS D s = [] by unfold cutS; rw [if_neg (by simp [hr])])
    rw [hr] at HR
    clear hr hs0
    go_enter Try.func13, Try.ntmps13
    go_wp2_with (refine load_dfa rfl (x := .tmp 2) rfl rfl HXR.out ?_)
    rw [← hw0, ← hw1]
    refine (HR.out _ (below_then HB0.out HB0.out.size HB1.out)).mono ?_
    rintro e w2 ⟨rfl, hb2⟩
    go_wp2
    rw [HV.out]
    go_ret
    have hq := HP0.out.kept hb2
    rw [HS0.out] at hq
    exact ⟨_, rfl, hq.lower (by omega), below_then (below_then HB0.out HB0.out.size HB1.out) (by have := HB1.out.size; have := HS0.out; omega) hb2⟩
  | true =>
    have HV := hidden (show cutS D s = (cutP D s.data.toList).map pk by unfold cutS; rw [if_pos hr])
    have HNV := hidden (fun (k : Nat) (hk : k < s.size) => (show nxV D s (k : Int) = ((nxP D (s.data.toList.drop k)).1, (k : Int) + (nxP D (s.data.toList.drop k)).2) from by unfold nxV; rw [if_pos ⟨hr, by omega, by omega⟩, Int.toNat_natCast]))
    have HLEN := hidden (show ((cutP D s.data.toList).map pk).length ≤ s.size by rw [List.length_map]; exact cut_len s.size _ (list_len s))
    have HMO := hidden (fun (k : Nat) (pre : List Pc) => cut_more (D := D) (s := s) (k := k) (pre := pre))
    rw [hr] at HR
    clear hr hs0
    go_enter Try.func13, Try.ntmps13
    go_wp2_with (refine load_dfa rfl (x := .tmp 2) rfl rfl HXR.out ?_)
    rw [← hw0, ← hw1]
    refine (HR.out _ (below_then HB0.out HB0.out.size HB1.out)).mono ?_
    rintro e w2 ⟨rfl, hb2⟩
    have HB2 := hidden (below_then HB1.out HB1.out.size hb2)
    have HX2 := hidden ((HX.out.below HB1.out).below hb2)
    have HP2 := hidden (HP0.out.kept hb2)
    clear hb2 hw0 hw1
    go_wp2
    go_loopw [5, 6, 7, 8] (fun v i _ _ wr => ∃ (k : Nat) (pre : List Pc), k ≤ s.size ∧ i = .int .i64 k ∧ Hid ((cutP D s.data.toList).map pk = pre ++ (cutP D (s.data.toList.drop k)).map pk) ∧ RowP wr w0.heap.size v pre ∧ Below w0.heap.size w0 wr) (fun _ i _ _ _ => s.size - (Go.RowKit.intOf i).toNat)
    case atStart => exact ⟨0, [], by omega, rfl, hidden rfl, by have h := HP2.out; rw [HS0.out] at h ⊢; exact h, HB2.out⟩
    case round =>
      obtain ⟨k, pre, hk, rfl, HPR, hrow, hb⟩ := hrel
      have HROW := hidden hrow
      have HB := hidden hb
      obtain ⟨va, vc, rfl⟩ := hrow.form
      clear hrow hb
      by_cases hlt : k < s.size
      · obtain ⟨h1, h2, h3, h4⟩ := HMO.out k pre hlt HPR.out
        have hpl : pre.length ≤ 1000 := by have := HLEN.out; omega
        have HN := hidden (HNX.out wr (below_then HB0.out HB0.out.size HB.out) (k : Int))
        rw [HNV.out k hlt] at HN
        have H3 := hidden h3
        obtain ⟨n, hn⟩ : ∃ n, n = (nxP D (s.data.toList.drop k)).2 := ⟨_, rfl⟩
        obtain ⟨t, ht⟩ : ∃ t, t = (nxP D (s.data.toList.drop k)).1 := ⟨_, rfl⟩
        rw [← hn] at h1 h2 H3 HN
        rw [← ht] at H3 HN
        obtain ⟨q, hq⟩ : ∃ q, q = k + n := ⟨_, rfl⟩
        have hqi : (k : Int) + (n : Int) = (q : Int) := by omega
        rw [← hq] at H3
        dsimp only at HN
        rw [hqi] at HN
        have hsl : ∀ W : World, (Instr.slice 9 (.string s) (some (.int .i64 (k : Int))) (some (.int .i64 (q : Int))) none).run Try.prog W = .ok (.string (s.extract k q)) W := fun W => by
          rw [run_slice_string W 9 s .i64 .i64 (k : Int) (q : Int) Try.underlying9 (by omega) (by omega) (by omega), Int.toNat_natCast, Int.toNat_natCast]
        obtain ⟨x, hx⟩ : ∃ x, x = s.extract k q := ⟨_, rfl⟩
        rw [← hx] at H3 hsl
        obtain ⟨m, hm⟩ : ∃ m, m = pre.length := ⟨_, rfl⟩
        have HM := hidden hm
        have hqs : q ≤ s.size := by omega
        have hkq : k < q := by omega
        rw [← hm] at HROW hpl ⊢
        have hXR := (HX.out.below HB.out)
        have HXW := hidden hXR
        clear hn ht hq hqi hx h1 h2 h3 h4 hm hXR
        go_wp2_with (refine load_dfa rfl (x := .tmp 2) rfl rfl HXW.out ?_)
        refine HN.out.mono ?_
        rintro e w3 ⟨rfl, hb3⟩
        have HB3 := hidden (below_then HB.out HB.out.size hb3)
        have HR3 := hidden (HROW.out.kept hb3)
        clear hb3 HROW
        have HR4 := hidden (HR3.out.kept ((Below.refl w3.heap.size w3).alloc (Nat.le_refl _) (.cells #[.int .i64 t, .string x] 33)))
        have HB4 := hidden (HB3.out.alloc HB3.out.size (.cells #[.int .i64 t, .string x] 33))
        go_wp2_with (at_builtin; refine app_pc rfl _ _ rfl (p := (t, x)) rfl HR4.out rfl (heap_alloc_new _ _) HM.out.symm (by omega) HB4.out.size ?_; intro g' c' w5 hr5 _ hb5; have HR5 := hidden hr5; have HB5 := hidden (HB4.out.trans hb5); clear hr5 hb5)
        go_roundw
        case rel => exact ⟨q, pre ++ [(t, x)], hqs, rfl, H3, HR5.out, HB5.out⟩
        case measure => show s.size - (q : Int).toNat < s.size - (k : Int).toNat; omega
      · obtain rfl : k = s.size := by omega
        have HE := hidden (show cutS D s = pre from by rw [HV.out, HPR.out, List.drop_eq_nil_of_le (by rw [list_len]; exact Nat.le_refl _), cut_nil]; simp)
        go_wp2
        rw [HE.out]
        go_ret
        exact ⟨_, rfl, HROW.out.lower (by rw [HS0.out]; omega), below_then HB0.out HB0.out.size HB.out⟩
end Go.Proofs.Ytgaadndhecokfaa

/- Contracts of the program's isRow and Right of a machine. -/
namespace Go.Proofs.Ytgaadndhecokfaa
open Go.RowKit

def entP (n : Nat) (x : Int) : Bool := decide (-1 ≤ x) && decide (x < n)
def rowP (l : List Int) (wd : Int) (n : Nat) : Bool := decide ((l.length : Int) = wd) && l.all (entP n)
set_option maxHeartbeats 2000000 in
set_option maxRecDepth 100000 in
theorem isRow_calls {w : World} {v : Value} {l : List Int} (wd : Int) (n : Nat) (h : RdZ w.heap.size w v l) :
    Calls Try.prog 61 #[v, .int .i64 wd, .int .i64 n] w fun e w' => e = .returned (.bool (rowP l wd n)) ∧ Below w.heap.size w w' := by
  obtain ⟨a, c, rfl⟩ := h.form
  have hb : l.length ≤ 9223372036854775807 := by
    obtain ⟨_, _, e, h1, h2, _⟩ := h
    unfold maxLen at h2
    omega
  have HA := hidden (fun i (hi : i < l.length) => h.atZ (Below.refl _ _) i hi)
  have HE := hidden (fun i (hi : i < l.length) (he : entP n (l.getD i 0) = false) => (show l.all (entP n) = false from by
    rw [List.all_eq_false]
    refine ⟨l.getD i 0, ?_, by rw [he]; decide⟩
    rw [List.getD_eq_getElem?_getD, List.getElem?_eq_getElem hi]
    exact List.getElem_mem hi))
  have HAL := hidden (show (∀ i, i < l.length → entP n (l.getD i 0) = true) → l.all (entP n) = true from fun h => by
    rw [List.all_eq_true]
    intro x hx
    obtain ⟨i, hi, rfl⟩ := List.getElem_of_mem hx
    have := h i hi
    rwa [List.getD_eq_getElem?_getD, List.getElem?_eq_getElem hi] at this)
  have HR := hidden (show rowP l wd n = (decide ((l.length : Int) = wd) && l.all (entP n)) from rfl)
  obtain ⟨m, hm⟩ : ∃ m, m = l.length := ⟨_, rfl⟩
  rw [← hm] at HA HE HAL HR hb ⊢
  clear h hm
  by_cases hw : (m : Int) = wd
  case neg =>
    have hq : decide ((m : Int) = wd) = false := decide_eq_false hw
    have hq2 : ((m : Int) == wd) = false := by simpa using hw
    rw [hq, Bool.false_and] at HR
    clear hw
    go_enter Try.func61, Try.ntmps61
    go_wp2
    go_ret
    exact ⟨ret_b HR.out.symm, Below.refl _ _⟩
  have hq : decide ((m : Int) = wd) = true := decide_eq_true hw
  have hq2 : ((m : Int) == wd) = true := by simpa using hw
  rw [hq, Bool.true_and] at HR
  subst hw
  clear hq
  go_enter Try.func61, Try.ntmps61
  go_wp2
  go_loopw [15] (fun i wr => ∃ k : Nat, k ≤ m ∧ i = .int .i64 k ∧ Hid (∀ j, j < k → entP n (l.getD j 0) = true) ∧ wr = w) (fun i _ => m - (Go.RowKit.intOf i).toNat)
  case atStart => exact ⟨0, by omega, rfl, hidden fun j hj => by omega, rfl⟩
  case round =>
    obtain ⟨k, hk, rfl, hA, rfl⟩ := hrel
    by_cases hlt : k < m
    · obtain ⟨b, off, rfl, _, d0⟩ := HA.out k hlt
      have HEN := hidden (show entP n (l.getD k 0) = (decide (-1 ≤ l.getD k 0) && decide (l.getD k 0 < n)) from rfl)
      have HEX := hidden (HE.out k hlt)
      obtain ⟨x, hx⟩ : ∃ x, x = l.getD k 0 := ⟨_, rfl⟩
      have HX := hidden hx
      rw [← hx] at d0 HEN HEX
      clear hx
      by_cases h1 : x < -1
      · have HF := hidden (HEX.out (by rw [HEN.out, decide_eq_false (by omega)]; rfl))
        go_wp2
        go_ret
        exact ⟨ret_b (HR.out.trans HF.out).symm, Below.refl _ _⟩
      · by_cases h2 : x < (n : Int)
        · have HT := hidden (show entP n x = true by rw [HEN.out, decide_eq_true (by omega), decide_eq_true h2]; rfl)
          have hq3 : decide ((n : Int) ≤ x) = false := decide_eq_false (by omega)
          go_wp2
          go_roundw
          case rel =>
            refine ⟨k + 1, by omega, by go_num, hidden fun j hj => ?_, trivial⟩
            by_cases e : j = k
            · subst e; rw [← HX.out]; exact HT.out
            · exact hA.out j (by omega)
          case measure => simp [Go.RowKit.intOf]; omega
        · have HF := hidden (HEX.out (by rw [HEN.out, decide_eq_false h2, Bool.and_false]))
          have hq3 : decide ((n : Int) ≤ x) = true := decide_eq_true (by omega)
          go_wp2
          go_ret
          exact ⟨ret_b (HR.out.trans HF.out).symm, Below.refl _ _⟩
    · obtain rfl : k = m := by omega
      have HF := hidden (HAL.out hA.out)
      go_wp2
      go_ret
      exact ⟨ret_b (HR.out.trans HF.out).symm, Below.refl _ _⟩
theorem rowOk_p (D : DfaM) (i : Nat) : rowOk D i = (decide (-1 ≤ D.label.getD i 0) && rowP (D.next.getD i []) D.width D.next.length) := by
  unfold rowOk rowP
  have e : entB D = entP D.next.length := rfl
  rw [e]
  cases decide (((D.next.getD i []).length : Int) = D.width) <;> simp
set_option maxHeartbeats 4000000 in
set_option maxRecDepth 100000 in
theorem right14_calls {w : World} {vn vl : Value} {D : DfaM} (h : RdDfa w.heap.size w vn vl D) :
    Calls Try.prog 47 #[dfaA D.cls D.width vn vl] w fun e w' => e = .returned (.bool (rightD D)) ∧ Below w.heap.size w w' := by
  obtain ⟨an, cn, rfl⟩ := h.next.form
  obtain ⟨al, cl, rfl⟩ := h.label.form
  have hbn : D.next.length ≤ 9223372036854775807 := by
    obtain ⟨_, _, e, h1, h2, _⟩ := h.next
    unfold maxLen at h2
    omega
  have HROW := hidden (fun i => rowOk_p D i)
  have HRF := hidden (fun i (hi : i < D.next.length) (hf : rowOk D i = false) => rightD_row hi hf)
  have HRA := hidden (fun (h1 : headOk D = true) (h2 : ∀ i, i < D.next.length → rowOk D i = true) => rightD_all h1 h2)
  obtain ⟨n, hn⟩ : ∃ n, n = D.next.length := ⟨_, rfl⟩
  obtain ⟨m, hm⟩ : ∃ m, m = D.label.length := ⟨_, rfl⟩
  rw [← hn] at hbn h HROW HRF HRA ⊢
  rw [← hm] at h ⊢
  have HN := hidden hn
  have HM := hidden hm
  have HD := hidden h
  have HX := hidden (DfaAt.new w D.cls D.width (.slice an n cn) (.slice al m cl))
  have HB0 := hidden ((Below.refl w.heap.size w).alloc (Nat.le_refl _) (.cells (dfaC D.cls D.width (.slice an n cn) (.slice al m cl)) 26))
  have hbx := run_box_dfa D.cls D.width (.slice an n cn) (.slice al m cl)
  clear h hn hm
  go_enter Try.func47, Try.ntmps47
  go_wp2
  obtain ⟨w0, hw0⟩ : ∃ w0, w0 = w.alloc (.cells (dfaC D.cls D.width (.slice an n cn) (.slice al m cl)) 26) := ⟨_, rfl⟩
  rw [← hw0] at HX HB0 ⊢
  have hz0 : w.heap.size < w0.heap.size := by rw [hw0]; simp
  clear hw0
  have HL := hidden (show ∀ w', (∃ p : Later w0, w' = p.at') → (loadVar 22 ⟨w.heap.size, 0, none⟩).run Try.prog w' = .ok (ar D.cls) w' from fun w' ⟨p, e⟩ => by subst e; exact run_load_cls (HX.out.below p.ok))
  have c1 := fun (p : Later w0) => Later.cell HX.out.width hz0 p
  have HR := hidden (fun w' => kright_calls D.cls w' HD.out.small)
  have HV := hidden (fun w' => width_calls D.cls w' HD.out.small)
  obtain ⟨nn, hnn⟩ : ∃ nn, nn = wid D.cls 256 := ⟨_, rfl⟩
  rw [← hnn] at HV
  obtain ⟨r1, hr1⟩ : ∃ r, r = rightV D.cls := ⟨_, rfl⟩
  rw [← hr1] at HR
  have HH := hidden (show headOk D = (r1 && (decide (D.width = (nn : Int)) && (decide (n ≠ 0) && decide (m = n)))) from by unfold headOk; rw [hr1, hnn, HN.out, HM.out])
  clear hr1 hnn
  cases r1 with
  | false =>
    have HF := hidden (show rightD D = false by unfold rightD; rw [HH.out]; rfl)
    clear HH
    refine wp_region_later (by kernel_rfl) (by kernel_rfl) ?_
    repeat (first
      | (go_big_quiet_want; (first | (refine quiet_load (x := .tmp 5) rfl rfl HL.out ?_) | (refine quiet_load (x := .tmp 12) rfl rfl HL.out ?_)); simp only [Act.put, List.setIfInBounds_toArray, List.set_cons_zero, List.set_cons_succ]; go_big_quiet_on)
      | go_big_quiet_step ((first | (go_at_call 59; exact Later.calls (HR.out _)) | (go_at_call 60; exact Later.calls (HV.out _)))))
    refine wpQuiet_nil ?_
    rintro _ ⟨⟨_, hb1⟩, rfl⟩
    rename_i w1
    go_wp2
    go_ret
    exact ⟨ret_b HF.out.symm, below_then HB0.out HB0.out.size hb1⟩
  | true =>
    by_cases k2 : D.width = (nn : Int)
    case neg =>
      have HF := hidden (show rightD D = false by unfold rightD; rw [HH.out, decide_eq_false k2]; rfl)
      have q2 : (D.width == (nn : Int)) = false := by simp [k2]
      have q2' : (D.width != (nn : Int)) = true := by simp [k2]
      have k2H := hidden k2
      clear HH k2
      refine wp_region_later (by kernel_rfl) (by kernel_rfl) ?_
      repeat (first
        | (go_big_quiet_want; (first | (refine quiet_load (x := .tmp 5) rfl rfl HL.out ?_) | (refine quiet_load (x := .tmp 12) rfl rfl HL.out ?_)); simp only [Act.put, List.setIfInBounds_toArray, List.set_cons_zero, List.set_cons_succ]; go_big_quiet_on)
        | go_big_quiet_step ((first | (go_at_call 59; exact Later.calls (HR.out _)) | (go_at_call 60; exact Later.calls (HV.out _)))))
      refine wpQuiet_nil ?_
      rintro _ ⟨⟨_, hb1⟩, rfl⟩
      rename_i w1
      go_wp2
      go_ret
      exact ⟨ret_b HF.out.symm, below_then HB0.out HB0.out.size hb1⟩
    have q2 : (D.width == (nn : Int)) = true := by simp [k2]
    have q2' : (D.width != (nn : Int)) = false := by simp [k2]
    have k2H := hidden k2
    rw [decide_eq_true k2, Bool.true_and, Bool.true_and] at HH
    clear k2
    refine wp_region_later (by kernel_rfl) (by kernel_rfl) ?_
    repeat (first
      | (go_big_quiet_want; (first | (refine quiet_load (x := .tmp 5) rfl rfl HL.out ?_) | (refine quiet_load (x := .tmp 12) rfl rfl HL.out ?_)); simp only [Act.put, List.setIfInBounds_toArray, List.set_cons_zero, List.set_cons_succ]; go_big_quiet_on)
      | go_big_quiet_step ((first | (go_at_call 59; exact Later.calls (HR.out _)) | (go_at_call 60; exact Later.calls (HV.out _)))))
    refine wpQuiet_nil ?_
    rintro _ ⟨⟨_, hb1⟩, rfl⟩
    rename_i w1
    have hz1 := hb1.size
    have HX1 := hidden (HX.out.below hb1)
    have HB1 := hidden (below_then HB0.out HB0.out.size hb1)
    have e1 := HX1.out.width
    have e2 := HX1.out.next
    have e3 := HX1.out.label
    clear hb1 c1 HL HR HV q2 q2'
    by_cases k3 : n = 0
    · have HF := hidden (show rightD D = false by unfold rightD; rw [HH.out]; simp [k3])
      have q3 : ((n : Int) == 0) = true := by simp [k3]
      have q4 : decide ((n : Int) = 0) = true := by simp [k3]
      have k3H := hidden k3
      clear HH k3
      go_wp2
      go_ret
      exact ⟨ret_b HF.out.symm, HB1.out⟩
    have q3 : ((n : Int) == 0) = false := by simp [k3]
    have q3' : decide ((n : Int) = 0) = false := by simp [k3]
    by_cases k4 : m = n
    case neg =>
      have HF := hidden (show rightD D = false by unfold rightD; rw [HH.out]; simp [k4])
      have q4 : ((m : Int) == (n : Int)) = false := by simp; omega
      have q4' : decide ((m : Int) = (n : Int)) = false := by simp; omega
      have k3H := hidden k3
      have k4H := hidden k4
      clear HH k3 k4
      go_wp2
      go_ret
      exact ⟨ret_b HF.out.symm, HB1.out⟩
    have HOK := hidden (show headOk D = true by rw [HH.out]; simp [k3, k4])
    subst k4
    have k3H := hidden k3
    clear HH k3
    go_wp2
    clear q3 q3'
    go_loopw [30] (fun i wr => ∃ k : Nat, k ≤ m ∧ i = .int .i64 k ∧ Hid (∀ j, j < k → rowOk D j = true) ∧ Below w1.heap.size w1 wr) (fun i _ => m - (Go.RowKit.intOf i).toNat)
    case atStart => exact ⟨0, by omega, rfl, hidden fun j hj => by omega, Below.refl _ _⟩
    case round =>
      obtain ⟨k, hk, rfl, hA, hb⟩ := hrel
      have HB := hidden hb
      clear hb e1 e2 e3
      by_cases hlt : k < m
      · have hX := HX1.out.below HB.out
        have HBW := hidden (below_then HB1.out HB1.out.size HB.out)
        obtain ⟨b, off, rfl, hbb, hcl⟩ := HD.out.label.atZ HBW.out k (by have := HM.out; omega)
        obtain ⟨b2, off2, a2, c2, rfl, hbb2, hcl2, hrr⟩ := HD.out.next.at HBW.out k (by have := HN.out; omega)
        have d1 := fun (p : Later wr) => Later.cell hX.width hX.lt p
        have d2 := fun (p : Later wr) => Later.cell hX.next hX.lt p
        have d3 := fun (p : Later wr) => Later.cell hX.label hX.lt p
        have d4 := fun (p : Later wr) => Later.cell hcl (cell_lt hcl) p
        have d5 := fun (p : Later wr) => Later.cell hcl2 (cell_lt hcl2) p
        have HIR := hidden (fun (W : World) (hb : Below wr.heap.size wr W) => isRow_calls (w := W) D.width m (hrr.below (hb.mono (Nat.le_trans HBW.out.size (Nat.le_refl _))) (Nat.le_trans HBW.out.size hb.size)))
        have HRK := hidden (HROW.out k)
        obtain ⟨lx, hlx⟩ : ∃ x, x = D.label.getD k 0 := ⟨_, rfl⟩
        obtain ⟨rl, hrl⟩ : ∃ x, x = D.next.getD k [] := ⟨_, rfl⟩
        rw [← hlx] at d4 HRK
        rw [← hrl] at d5 HIR HRK
        obtain ⟨rn, hrn⟩ : ∃ x, x = rl.length := ⟨_, rfl⟩
        rw [← hrn] at d5 HIR
        obtain ⟨rp, hrp⟩ : ∃ x, x = rowP rl D.width m := ⟨_, rfl⟩
        rw [← hrp] at HIR HRK
        have hki : (k : Int) < (m : Int) := by omega
        clear hX hcl hcl2 hrr hlx hrl hrn hrp
        by_cases h1 : lx < -1
        · have HF := hidden (HRF.out k hlt (by rw [HRK.out, decide_eq_false (by omega)]; rfl))
          go_wp2
          refine wp_region_later (by kernel_rfl) (by kernel_rfl) ?_
          repeat (go_big_quiet_step (fail))
          refine wpQuiet_nil ?_
          rintro _ ⟨⟨_, hb5⟩, rfl⟩
          rename_i w5
          go_wp2
          go_ret
          exact ⟨ret_b HF.out.symm, below_then HBW.out HBW.out.size hb5⟩
        · have hq1 : decide (lx < -1) = false := decide_eq_false h1
          have HIL := hidden (show ∀ (p : Later wr), Calls Try.prog 61 #[.slice a2 rn c2, .int .i64 D.width, .int .i64 m] p.at' fun e w' => e = .returned (.bool rp) ∧ Below p.at'.heap.size p.at' w' from fun p => HIR.out _ p.ok)
          cases rp with
          | false =>
            have HF := hidden (HRF.out k hlt (by rw [HRK.out, Bool.and_false]))
            go_wp2
            refine wp_region_later (by kernel_rfl) (by kernel_rfl) ?_
            repeat (go_big_quiet_step ((go_at_call 61; exact Later.calls (HIL.out _))))
            refine wpQuiet_nil ?_
            rintro _ ⟨⟨_, hb5⟩, rfl⟩
            rename_i w5
            go_wp2
            go_ret
            exact ⟨ret_b HF.out.symm, below_then HBW.out HBW.out.size hb5⟩
          | true =>
            have HT := hidden (show rowOk D k = true by rw [HRK.out, decide_eq_true (by omega)]; rfl)
            go_wp2
            refine wp_region_later (by kernel_rfl) (by kernel_rfl) ?_
            repeat (go_big_quiet_step ((go_at_call 61; exact Later.calls (HIL.out _))))
            refine wpQuiet_nil ?_
            rintro _ ⟨⟨_, hb5⟩, rfl⟩
            rename_i w5
            have HB5 := hidden (below_then HB.out HB.out.size hb5)
            clear hb5
            go_wp2
            go_roundw
            case rel =>
              refine ⟨k + 1, by omega, by go_num, hidden fun j hj => ?_, HB5.out⟩
              by_cases e : j = k
              · subst e; exact HT.out
              · exact hA.out j (by omega)
            case measure => simp [Go.RowKit.intOf]; omega
      · obtain rfl : k = m := by omega
        have HF := hidden (HRA.out HOK.out hA.out)
        go_wp2
        go_ret
        exact ⟨ret_b HF.out.symm, below_then HB1.out HB1.out.size HB.out⟩
end Go.Proofs.Ytgaadndhecokfaa
