/- DfRight, DfGo, DfRun, DfMach, put together. -/
import Derived.Test.YtnjjbaodfjmiaaaGreatLt25
import Derived.Test.YtnjjbaodfjmiaaaGreatLt19
/- Contract of the reference's Right of a machine. -/
namespace Go.Proofs.YtnjjbaodfjmiaaaGreat
open Go.RowKit

/-- something is loaded, in a region that only reads -/
theorem quiet_load {C : World → Prop} {o : Oper} {a : Act} {K : Act → Prop} {t : TypeId} {x : Operand} {p : Addr} {v : Value} (ho : o.op = .load t x) (hx : a.eval x = .pointer (some p)) (hA : ∀ w, C w → (loadVar t p).run Tryz.prog w = .ok v w)
    (h : K (a.put o.dst v)) : o.quiet Tryz.prog a C K :=
  ⟨v, fun w hw => by
    have hl := hA w hw
    unfold Oper.quietAt execOp
    simp only [ho, hx, Instr.loadAt, Instr.sureAddr, Sem.run_bind, Sem.run_pure, Result.andThen_ok, hl]
    exact ⟨rfl, rfl⟩, h⟩
/-- row i has the machine's width, its label is not below -1, and its numbers are -1 or states -/
def entB (D : DfaM) (x : Int) : Bool := decide (-1 ≤ x) && decide (x < D.next.length)
def rowOk (D : DfaM) (i : Nat) : Bool := decide (((D.next.getD i []).length : Int) = D.width) && (decide (-1 ≤ D.label.getD i 0) && (D.next.getD i []).all (entB D))
def headOk (D : DfaM) : Bool := rightV D.cls && (decide (D.width = wid D.cls 256) && (decide (D.next.length ≠ 0) && decide (D.label.length = D.next.length)))
def rightD (D : DfaM) : Bool := headOk D && (List.range D.next.length).all (rowOk D)
theorem rightD_row {D : DfaM} {i : Nat} (hi : i < D.next.length) (h : rowOk D i = false) : rightD D = false := by
  unfold rightD
  rw [Bool.and_eq_false_iff]
  right
  rw [List.all_eq_false]
  exact ⟨i, by simpa using hi, by simp [h]⟩
theorem rightD_all {D : DfaM} (h1 : headOk D = true) (h2 : ∀ i, i < D.next.length → rowOk D i = true) : rightD D = true := by
  unfold rightD
  rw [h1, Bool.true_and, List.all_eq_true]
  exact fun i hi => h2 i (by simpa using hi)

/-- what reads as a machine -/
structure RdDfa (B : Nat) (w : World) (vn vl : Value) (D : DfaM) : Prop where
  next : RdZZ B w vn D.next
  label : RdZ B w vl D.label
  small : ∀ j, j < 256 → D.cls j < 256
theorem RdDfa.below {B B' : Nat} {w w' : World} {vn vl : Value} {D : DfaM} (h : RdDfa B w vn vl D) (hb : Below B w w') (hB : B ≤ B') : RdDfa B' w' vn vl D := ⟨h.next.below hb hB, h.label.below hb hB, h.small⟩

set_option maxHeartbeats 2000000 in
set_option maxRecDepth 100000 in
theorem rright14_calls {w : World} {vn vl : Value} {D : DfaM} (h : RdDfa w.heap.size w vn vl D) :
    Calls Tryz.prog 23 #[dfaA D.cls D.width vn vl] w fun e w' => e = .returned (.bool (rightD D)) ∧ Below w.heap.size w w' := by
  obtain ⟨an, cn, rfl⟩ := h.next.form
  obtain ⟨al, cl, rfl⟩ := h.label.form
  have hbn : D.next.length ≤ 9223372036854775807 := by
    obtain ⟨_, _, e, h1, h2, _⟩ := h.next
    unfold maxLen at h2
    omega
  have hbl : D.label.length ≤ 9223372036854775807 := by
    obtain ⟨_, _, e, h1, h2, _⟩ := h.label
    unfold maxLen at h2
    omega
  obtain ⟨n, hn⟩ : ∃ n, n = D.next.length := ⟨_, rfl⟩
  obtain ⟨m, hm⟩ : ∃ m, m = D.label.length := ⟨_, rfl⟩
  rw [← hn] at hbn h ⊢
  rw [← hm] at hbl h ⊢
  have HN := hidden hn
  have HM := hidden hm
  have HD := hidden h
  have HX := hidden (DfaAt.new w D.cls D.width (.slice an n cn) (.slice al m cl))
  have HB0 := hidden ((Below.refl w.heap.size w).alloc (Nat.le_refl _) (.cells (dfaC D.cls D.width (.slice an n cn) (.slice al m cl)) 26))
  have hbx := run_box_dfa D.cls D.width (.slice an n cn) (.slice al m cl)
  clear h hn hm
  go_enter Tryz.func23, Tryz.ntmps23
  go_wp2
  obtain ⟨w0, hw0⟩ : ∃ w0, w0 = w.alloc (.cells (dfaC D.cls D.width (.slice an n cn) (.slice al m cl)) 26) := ⟨_, rfl⟩
  rw [← hw0] at HX HB0 ⊢
  have hz0 : w.heap.size < w0.heap.size := by rw [hw0]; simp
  clear hw0
  have HL := hidden (show ∀ w', (∃ p : Later w0, w' = p.at') → (loadVar 22 ⟨w.heap.size, 0, none⟩).run Tryz.prog w' = .ok (ar D.cls) w' from fun w' ⟨p, e⟩ => by subst e; exact run_load_cls (HX.out.below p.ok))
  have c1 := fun (p : Later w0) => Later.cell HX.out.width hz0 p
  have c2 := fun (p : Later w0) => Later.cell HX.out.next hz0 p
  have c3 := fun (p : Later w0) => Later.cell HX.out.label hz0 p
  have HR := hidden (fun w' => krright_calls D.cls w' HD.out.small)
  have HV := hidden (fun w' => rwidth_calls D.cls w' HD.out.small)
  obtain ⟨nn, hnn⟩ : ∃ nn, nn = wid D.cls 256 := ⟨_, rfl⟩
  rw [← hnn] at HV
  obtain ⟨r1, hr1⟩ : ∃ r, r = rightV D.cls := ⟨_, rfl⟩
  rw [← hr1] at HR
  have HH := hidden (show headOk D = (r1 && (decide (D.width = (nn : Int)) && (decide (n ≠ 0) && decide (m = n)))) from by unfold headOk; rw [hr1, hnn, HN.out, HM.out])
  clear hr1 hnn
  cases r1 with
  | false =>
    have HF := hidden (show rightD D = false by unfold rightD; rw [HH.out]; rfl)
    clear HH
    refine wp_region_later (by kernel_rfl) (by kernel_rfl) ?_
    repeat (first
      | (go_big_quiet_want; (first | (refine quiet_load (x := .tmp 5) rfl rfl HL.out ?_) | (refine quiet_load (x := .tmp 12) rfl rfl HL.out ?_)); simp only [Act.put, List.setIfInBounds_toArray, List.set_cons_zero, List.set_cons_succ]; go_big_quiet_on)
      | go_big_quiet_step ((first | (go_at_call 40; exact Later.calls (HR.out _)) | (go_at_call 41; exact Later.calls (HV.out _)))))
    refine wpQuiet_nil ?_
    rintro _ ⟨⟨_, hb1⟩, rfl⟩
    rename_i w1
    go_wp2
    go_ret
    exact ⟨ret_b HF.out.symm, below_then HB0.out HB0.out.size hb1⟩
  | true =>
    by_cases k2 : D.width = (nn : Int)
    · have q2 : (D.width == (nn : Int)) = true := by simp [k2]
      have q2' : (D.width != (nn : Int)) = false := by simp [k2]
      by_cases k3 : n = 0
      · have HF := hidden (show rightD D = false by unfold rightD; rw [HH.out]; simp [k3])
        have q3 : ((n : Int) == 0) = true := by simp [k3]
        have k2H := hidden k2
        have k3H := hidden k3
        clear HH k2 k3
        refine wp_region_later (by kernel_rfl) (by kernel_rfl) ?_
        repeat (first
          | (go_big_quiet_want; (first | (refine quiet_load (x := .tmp 5) rfl rfl HL.out ?_) | (refine quiet_load (x := .tmp 12) rfl rfl HL.out ?_)); simp only [Act.put, List.setIfInBounds_toArray, List.set_cons_zero, List.set_cons_succ]; go_big_quiet_on)
          | go_big_quiet_step ((first | (go_at_call 40; exact Later.calls (HR.out _)) | (go_at_call 41; exact Later.calls (HV.out _)))))
        refine wpQuiet_nil ?_
        rintro _ ⟨⟨_, hb1⟩, rfl⟩
        rename_i w1
        go_wp2
        go_ret
        exact ⟨ret_b HF.out.symm, below_then HB0.out HB0.out.size hb1⟩
      · have q3 : ((n : Int) == 0) = false := by simp [k3]
        by_cases k4 : m = n
        · have HOK := hidden (show headOk D = true by rw [HH.out]; simp [k2, k3, k4])
          have q4 : ((m : Int) == (n : Int)) = true := by simp [k4]
          have q4' : ((m : Int) != (n : Int)) = false := by simp [k4]
          have k2H := hidden k2
          have k3H := hidden k3
          have k4H := hidden k4
          clear HH k2 k3 k4
          refine wp_region_later (by kernel_rfl) (by kernel_rfl) ?_
          repeat (first
            | (go_big_quiet_want; (first | (refine quiet_load (x := .tmp 5) rfl rfl HL.out ?_) | (refine quiet_load (x := .tmp 12) rfl rfl HL.out ?_)); simp only [Act.put, List.setIfInBounds_toArray, List.set_cons_zero, List.set_cons_succ]; go_big_quiet_on)
            | go_big_quiet_step ((first | (go_at_call 40; exact Later.calls (HR.out _)) | (go_at_call 41; exact Later.calls (HV.out _)))))
          refine wpQuiet_nil ?_
          rintro _ ⟨⟨_, hb1⟩, rfl⟩
          rename_i w1
          have hz1 := hb1.size
          have HX1 := hidden (HX.out.below hb1)
          have HB1 := hidden (below_then HB0.out HB0.out.size hb1)
          clear hb1 c1 c2 c3 HX HB0 HL HR HV q2 q2' q3 q4 q4' hbx
          go_wp2
          go_loopw [3] (fun i wr => ∃ k : Nat, k ≤ n ∧ i = .int .i64 k ∧ (∀ j, j < k → rowOk D j = true) ∧ Below w1.heap.size w1 wr) (fun i _ => n - (Go.RowKit.intOf i).toNat)
          case atStart => exact ⟨0, by omega, rfl, fun j h => by omega, Below.refl _ _⟩
          case round =>
            obtain ⟨k, hk, rfl, hro, hbr⟩ := hrel
            have HRO := hidden hro
            have HBR := hidden hbr
            clear hro hbr
            have hX := HX1.out.below HBR.out
            have c1 := fun (p : Later wr) => Later.cell hX.width hX.lt p
            have c2 := fun (p : Later wr) => Later.cell hX.next hX.lt p
            have c3 := fun (p : Later wr) => Later.cell hX.label hX.lt p
            have e1 := hX.width
            have e2 := hX.next
            have HXR := hidden hX
            clear hX
            by_cases hlt : k < n
            · obtain ⟨wq, rfl⟩ : ∃ wq, wq = wr := ⟨wr, rfl⟩
              have hkd : decide ((k : Int) < n) = true := decide_eq_true (by omega)
              obtain ⟨r, hr⟩ : ∃ r, r = D.next.getD k [] := ⟨_, rfl⟩
              obtain ⟨rl, hrl⟩ : ∃ rl, rl = r.length := ⟨_, rfl⟩
              obtain ⟨lb, hlb⟩ : ∃ lb, lb = D.label.getD k 0 := ⟨_, rfl⟩
              obtain ⟨b, off, a', c', rfl, hbb, hc, hrr⟩ := (HN.out ▸ HD.out.next).at (below_then HB1.out HB1.out.size HBR.out) k (by rw [← HN.out]; exact hlt)
              obtain ⟨b2, off2, rfl, hbb2, hc2⟩ := (HM.out ▸ HD.out.label).atZ (below_then HB1.out HB1.out.size HBR.out) k (by rw [← HM.out, k4H.out]; exact hlt)
              rw [← hr] at hc hrr
              rw [← hrl] at hc hrr
              rw [← hlb] at hc2
              have HRW := hidden (show rowOk D k = (decide ((rl : Int) = D.width) && (decide (-1 ≤ lb) && r.all (entB D))) from by unfold rowOk; rw [← hr, ← hrl, ← hlb])
              have hbr : rl ≤ 9223372036854775807 := by
                obtain ⟨_, _, e, h1, h2, _⟩ := hrr
                rw [← hrl] at h1
                unfold maxLen at h2
                omega
              have HRR := hidden hrr
              have HRL := hidden hrl
              have d0 := fun (p : Later wq) => Later.cell hc (cell_lt hc) p
              have d1 := fun (p : Later wq) => Later.cell hc2 (cell_lt hc2) p
              have HC := hidden hc
              have hbl2 : (k : Int) < m := by rw [k4H.out]; omega
              have hbn2 : (k : Int) < n := by omega
              clear hr hrl hlb hrr hc hc2
              by_cases j1 : (rl : Int) = D.width
              · have p1 : ((rl : Int) == D.width) = true := by simp [j1]
                have p1' : ((rl : Int) != D.width) = false := by simp [j1]
                by_cases j2 : lb < -1
                · have p2 : decide (lb < -1) = true := decide_eq_true j2
                  have HF := hidden (rightD_row (D := D) (i := k) (by rw [← HN.out]; exact hlt) (by rw [HRW.out]; simp; omega))
                  have j1H := hidden j1
                  have j2H := hidden j2
                  clear j1 j2 HRW
                  go_wp2
                  refine wp_region_later (by kernel_rfl) (by kernel_rfl) ?_
                  repeat (go_big_quiet_step (fail))
                  refine wpQuiet_nil ?_
                  rintro _ ⟨⟨_, hb5⟩, rfl⟩
                  rename_i w5
                  go_wp2
                  go_ret
                  exact ⟨ret_b HF.out.symm, below_then HB1.out HB1.out.size (below_then HBR.out HBR.out.size hb5)⟩
                · have p2 : decide (lb < -1) = false := decide_eq_false j2
                  have HRW2 := hidden (show rowOk D k = r.all (entB D) from by rw [HRW.out]; simp [j1, show -1 ≤ lb by omega])
                  have j1H := hidden j1
                  clear j1 j2 HRW
                  go_wp2
                  refine wp_region_later (by kernel_rfl) (by kernel_rfl) ?_
                  repeat (go_big_quiet_step (fail))
                  refine wpQuiet_nil ?_
                  rintro _ ⟨⟨_, hb5⟩, rfl⟩
                  rename_i w5
                  have HB5 := hidden hb5
                  clear hb5 c1 c2 c3 e1 e2 d0 d1 p1 p1' p2 HXR
                  go_wp2
                  go_loopw [4] (fun i wr => ∃ c : Nat, c ≤ rl ∧ i = .int .i64 c ∧ (∀ j, j < c → entB D (r.getD j 0) = true) ∧ Below wq.heap.size wq wr) (fun i _ => rl - (Go.RowKit.intOf i).toNat)
                  case atStart => exact ⟨0, by omega, rfl, fun j h => by omega, HB5.out⟩
                  case round =>
                    obtain ⟨c, hcl, rfl, hen, hbi⟩ := hrel
                    have HEN := hidden hen
                    have HBI := hidden hbi
                    have hX := (HX1.out.below HBR.out).below hbi
                    have c1 := fun (p : Later wr) => Later.cell hX.width hX.lt p
                    have c2 := fun (p : Later wr) => Later.cell hX.next hX.lt p
                    have e1 := hX.width
                    rw [← j1H.out] at e1 c1
                    have hcw := (hbi.cell (p := ⟨b, off + k, none⟩) (cell_lt HC.out)).trans HC.out
                    have d0 := fun (p : Later wr) => Later.cell hcw (cell_lt hcw) p
                    clear hen hbi hX hcw
                    by_cases hcl2 : c < rl
                    · obtain ⟨b3, off3, rfl, hb3, hc3⟩ := HRR.out.atZ (HBI.out.mono ((below_then HB1.out HB1.out.size HBR.out).size)) c (by rw [← HRL.out]; exact hcl2)
                      have d2 := fun (p : Later wr) => Later.cell hc3 (cell_lt hc3) p
                      have hc4 : (c : Int) < rl := by omega
                      obtain ⟨x, hx⟩ : ∃ x, x = r.getD c 0 := ⟨_, rfl⟩
                      rw [← hx] at d2
                      have HXI := hidden (show x ∈ r from by rw [hx]; have h1 : c < r.length := by rw [← HRL.out]; exact hcl2
                                                             simp [List.getD_eq_getElem?_getD, h1])
                      have HXX := hidden hx
                      clear hx hc3
                      have HNO := hidden (fun (h : entB D x = false) => rightD_row (D := D) (i := k) (by rw [← HN.out]; exact hlt) (by rw [HRW2.out, List.all_eq_false]; exact ⟨x, HXI.out, by simp [h]⟩))
                      by_cases l1 : x < -1
                      · have HF := hidden (HNO.out (by unfold entB; simp; omega))
                        have p3 : decide (x < -1) = true := decide_eq_true l1
                        have l1H := hidden l1
                        clear l1
                        go_wp2
                        refine wp_region_later (by kernel_rfl) (by kernel_rfl) ?_
                        repeat (go_big_quiet_step (fail))
                        refine wpQuiet_nil ?_
                        rintro _ ⟨⟨_, hb5⟩, rfl⟩
                        rename_i w5
                        go_wp2
                        go_ret
                        exact ⟨ret_b HF.out.symm, below_then HB1.out HB1.out.size (below_then HBR.out HBR.out.size (below_then HBI.out HBI.out.size hb5))⟩
                      · have p3 : decide (x < -1) = false := decide_eq_false l1
                        by_cases l2 : x < n
                        · have p4 : decide ((n : Int) ≤ x) = false := decide_eq_false (by omega)
                          have HE := hidden (show entB D x = true from by unfold entB; rw [← HN.out]; simp; omega)
                          clear l1 l2
                          go_wp2
                          refine wp_region_later (by kernel_rfl) (by kernel_rfl) ?_
                          repeat (go_big_quiet_step (fail))
                          refine wpQuiet_nil ?_
                          rintro _ ⟨⟨_, hb5⟩, rfl⟩
                          rename_i w5
                          have HB7 := hidden (below_then HBI.out HBI.out.size hb5)
                          clear hb5
                          go_wp2
                          go_roundw
                          case rel => exact ⟨c + 1, by omega, by go_num, fun j hj => by
                              by_cases e : j = c
                              · subst e; rw [← HXX.out]; exact HE.out
                              · exact HEN.out j (by omega), HB7.out⟩
                          case measure => simp [Go.RowKit.intOf]; omega
                        · have p4 : decide ((n : Int) ≤ x) = true := decide_eq_true (by omega)
                          have HF := hidden (HNO.out (by unfold entB; rw [← HN.out]; simp; omega))
                          clear l1 l2
                          go_wp2
                          refine wp_region_later (by kernel_rfl) (by kernel_rfl) ?_
                          repeat (go_big_quiet_step (fail))
                          refine wpQuiet_nil ?_
                          rintro _ ⟨⟨_, hb5⟩, rfl⟩
                          rename_i w5
                          go_wp2
                          go_ret
                          exact ⟨ret_b HF.out.symm, below_then HB1.out HB1.out.size (below_then HBR.out HBR.out.size (below_then HBI.out HBI.out.size hb5))⟩
                    · obtain rfl : c = rl := by omega
                      have HE := hidden (show rowOk D k = true from by
                        rw [HRW2.out, List.all_eq_true]
                        intro x hx
                        obtain ⟨j, hj, rfl⟩ := List.mem_iff_getElem.1 hx
                        have := HEN.out j (by rw [HRL.out]; exact hj)
                        simpa [List.getD_eq_getElem?_getD, hj] using this)
                      have HB7 := hidden (below_then HBR.out HBR.out.size HBI.out)
                      go_wp2
                      refine ⟨⟨k + 1, by omega, by go_num, fun j hj => ?_, HB7.out⟩, by simp [Go.RowKit.intOf]; omega⟩
                      by_cases e : j = k
                      · subst e; exact HE.out
                      · exact HRO.out j (by omega)
              · have p1 : ((rl : Int) == D.width) = false := by simpa using j1
                have p1' : ((rl : Int) != D.width) = true := by simpa using j1
                have HF := hidden (rightD_row (D := D) (i := k) (by rw [← HN.out]; exact hlt) (by rw [HRW.out]; simp [j1]))
                have j1H := hidden j1
                clear j1 HRW
                go_wp2
                refine wp_region_later (by kernel_rfl) (by kernel_rfl) ?_
                repeat (go_big_quiet_step (fail))
                refine wpQuiet_nil ?_
                rintro _ ⟨⟨_, hb5⟩, rfl⟩
                rename_i w5
                go_wp2
                go_ret
                exact ⟨ret_b HF.out.symm, below_then HB1.out HB1.out.size (below_then HBR.out HBR.out.size hb5)⟩
            · obtain rfl : k = n := by omega
              have HF := hidden (rightD_all HOK.out (fun i hi => HRO.out i (by rw [HN.out]; exact hi)))
              go_wp2
              go_ret
              exact ⟨ret_b HF.out.symm, below_then HB1.out HB1.out.size HBR.out⟩
        · have HF := hidden (show rightD D = false by unfold rightD; rw [HH.out]; simp [k4])
          have q4 : ((m : Int) == (n : Int)) = false := by simp; omega
          have q4' : ((m : Int) != (n : Int)) = true := by simp; omega
          have k2H := hidden k2
          have k3H := hidden k3
          have k4H := hidden k4
          clear HH k2 k3 k4
          refine wp_region_later (by kernel_rfl) (by kernel_rfl) ?_
          repeat (first
            | (go_big_quiet_want; (first | (refine quiet_load (x := .tmp 5) rfl rfl HL.out ?_) | (refine quiet_load (x := .tmp 12) rfl rfl HL.out ?_)); simp only [Act.put, List.setIfInBounds_toArray, List.set_cons_zero, List.set_cons_succ]; go_big_quiet_on)
            | go_big_quiet_step ((first | (go_at_call 40; exact Later.calls (HR.out _)) | (go_at_call 41; exact Later.calls (HV.out _)))))
          refine wpQuiet_nil ?_
          rintro _ ⟨⟨_, hb1⟩, rfl⟩
          rename_i w1
          go_wp2
          go_ret
          exact ⟨ret_b HF.out.symm, below_then HB0.out HB0.out.size hb1⟩
    · have HF := hidden (show rightD D = false by unfold rightD; rw [HH.out]; simp [k2])
      have q2 : (D.width == (nn : Int)) = false := by simpa using k2
      have q2' : (D.width != (nn : Int)) = true := by simpa using k2
      have k2H := hidden k2
      clear HH k2
      refine wp_region_later (by kernel_rfl) (by kernel_rfl) ?_
      repeat (first
        | (go_big_quiet_want; (first | (refine quiet_load (x := .tmp 5) rfl rfl HL.out ?_) | (refine quiet_load (x := .tmp 12) rfl rfl HL.out ?_)); simp only [Act.put, List.setIfInBounds_toArray, List.set_cons_zero, List.set_cons_succ]; go_big_quiet_on)
        | go_big_quiet_step ((first | (go_at_call 40; exact Later.calls (HR.out _)) | (go_at_call 41; exact Later.calls (HV.out _)))))
      refine wpQuiet_nil ?_
      rintro _ ⟨⟨_, hb1⟩, rfl⟩
      rename_i w1
      go_wp2
      go_ret
      exact ⟨ret_b HF.out.symm, below_then HB0.out HB0.out.size hb1⟩
end Go.Proofs.YtnjjbaodfjmiaaaGreat

/- Contracts of the reference's Go and Label of a machine. -/
namespace Go.Proofs.YtnjjbaodfjmiaaaGreat
open Go.RowKit

/-- the whole machine is loaded -/
theorem load_dfa {ops : Array Oper} {rest : List Oper} {o : Oper} {a : Act} {w : World} {Q : Exit → Act → World → Prop} (hgd : o.guard = none) {x : Operand} (ho : o.op = .load 26 x)
    {B : Nat} {g : Nat → Nat} {wd : Int} {vn vl : Value} (hx : a.eval x = .pointer (some ⟨B, 0, none⟩)) (hA : DfaAt w B g wd vn vl)
    (h : wpList Tryz.prog ops Q rest (a.put o.dst (dfaA g wd vn vl)) w) : wpList Tryz.prog ops Q (o :: rest) a w :=
  wpList_load_row hgd 26 x ho B hx 26 _ _ _ hA Tryz.underlying26 rfl (by rw [dfaC_size]; exact size_dfa) h
theorem rightD_spec {D : DfaM} (h : rightD D = true) : rightV D.cls = true ∧ D.width = wid D.cls 256 ∧ D.next.length ≠ 0 ∧ D.label.length = D.next.length ∧
    ∀ i, i < D.next.length → ((D.next.getD i []).length : Int) = D.width ∧ -1 ≤ D.label.getD i 0 ∧ ∀ x ∈ D.next.getD i [], -1 ≤ x ∧ x < D.next.length := by
  unfold rightD headOk at h
  simp only [Bool.and_eq_true, decide_eq_true_eq, List.all_eq_true, List.mem_range] at h
  obtain ⟨⟨h1, h2, h3, h4⟩, h5⟩ := h
  refine ⟨h1, h2, h3, h4, fun i hi => ?_⟩
  have := h5 i hi
  unfold rowOk entB at this
  simp only [Bool.and_eq_true, decide_eq_true_eq, List.all_eq_true] at this
  exact ⟨this.1, this.2.1, this.2.2⟩
theorem getD_mem {l : List Int} {k : Nat} (h : k < l.length) : l.getD k 0 ∈ l := by
  rw [List.getD_eq_getElem?_getD, List.getElem?_eq_getElem h]
  exact List.getElem_mem h
/-- the state behind state s by byte c -/
def nxtD (D : DfaM) (s : Int) (c : Nat) : Int := (D.next.getD s.toNat []).getD (D.cls c) 0
theorem nxtD_in {D : DfaM} (h : rightD D = true) {s : Int} (h0 : 0 ≤ s) (h1 : s < D.next.length) {c : Nat} (hc : c < 256) : D.cls c < (D.next.getD s.toNat []).length ∧ -1 ≤ nxtD D s c ∧ nxtD D s c < D.next.length := by
  obtain ⟨_, h2, _, _, h5⟩ := rightD_spec h
  obtain ⟨h6, _, h7⟩ := h5 s.toNat (by omega)
  have h8 := wid_ge D.cls hc
  have h9 : D.cls c < (D.next.getD s.toNat []).length := by omega
  refine ⟨h9, ?_⟩
  unfold nxtD
  exact h7 _ (getD_mem h9)
def goD (D : DfaM) (s : Int) (c : Nat) : Int := if rightD D = true ∧ 0 ≤ s ∧ s < D.next.length then nxtD D s c else -1
def labelD (D : DfaM) (s : Int) : Int := if rightD D = true ∧ 0 ≤ s ∧ s < D.label.length then D.label.getD s.toNat 0 else -1

end Go.Proofs.YtnjjbaodfjmiaaaGreat

/- Contracts of the reference's Run and Label of a machine. -/
namespace Go.Proofs.YtnjjbaodfjmiaaaGreat
open Go.RowKit

/-- from state s on, behind the rest of a word -/
def runS (D : DfaM) : Int → List Nat → Int
  | s, [] => s
  | s, c :: r => if s < 0 then s else runS D (nxtD D s c) r
def runD (D : DfaM) (W : List Nat) : Int := if rightD D = true then runS D 0 W else -1
theorem runS_stop (D : DfaM) {s : Int} (h : s < 0) : ∀ W, runS D s W = s
  | [] => rfl
  | c :: r => by unfold runS; rw [if_pos h]
theorem bytes_drop (s : ByteArray) {k : Nat} (h : k < s.size) : ((s.data.toList.drop k).map (·.toNat)) = s[k].toNat :: (s.data.toList.drop (k + 1)).map (·.toNat) := by
  have hl : k < s.data.toList.length := by simpa using h
  rw [List.drop_eq_getElem_cons hl, List.map_cons]
  rfl

set_option maxHeartbeats 2000000 in
set_option maxRecDepth 100000 in
theorem rrun14_calls {w : World} {vn vl : Value} {D : DfaM} (s : ByteArray) (h : RdDfa w.heap.size w vn vl D) (hs : s.size ≤ maxLen) :
    Calls Tryz.prog 25 #[dfaA D.cls D.width vn vl, .string s] w fun e w' => e = .returned (.int .i64 (runD D (s.data.toList.map (·.toNat)))) ∧ Below w.heap.size w w' := by
  obtain ⟨an, cn, rfl⟩ := h.next.form
  have hbn : D.next.length ≤ 9223372036854775807 := by
    obtain ⟨_, _, e, h1, h2, _⟩ := h.next
    unfold maxLen at h2
    omega
  unfold maxLen at hs
  have HR := hidden (fun w' (hb : Below w.heap.size w w') => rright14_calls (h.below hb hb.size))
  obtain ⟨n, hn⟩ : ∃ n, n = D.next.length := ⟨_, rfl⟩
  rw [← hn] at hbn h HR ⊢
  have HN := hidden hn
  have HD := hidden h
  have HX := hidden (DfaAt.new w D.cls D.width (.slice an n cn) vl)
  have HB0 := hidden ((Below.refl w.heap.size w).alloc (Nat.le_refl _) (.cells (dfaC D.cls D.width (.slice an n cn) vl) 26))
  have hbx := run_box_dfa D.cls D.width (.slice an n cn) vl
  clear h hn
  go_enter Tryz.func25, Tryz.ntmps25
  go_wp2_with (refine load_dfa rfl (x := .tmp 2) rfl rfl HX.out ?_)
  refine (HR.out _ HB0.out).mono ?_
  rintro e w1 ⟨rfl, hb1⟩
  have HX1 := hidden (HX.out.below hb1)
  have HB1 := hidden (below_then HB0.out HB0.out.size hb1)
  clear hb1
  cases hr : rightD D with
  | false =>
    have HF := hidden (show runD D (s.data.toList.map (·.toNat)) = -1 by unfold runD; rw [if_neg (by simp [hr])])
    clear hr
    go_wp2
    go_ret
    exact ⟨ret_i HF.out.symm, HB1.out⟩
  | true =>
    have HRT := hidden hr
    have HF := hidden (show runD D (s.data.toList.map (·.toNat)) = runS D 0 ((s.data.toList.drop 0).map (·.toNat)) by unfold runD; rw [if_pos hr]; rfl)
    have hn0 : 0 < n := by have := (rightD_spec hr).2.2.1; rw [HN.out]; omega
    clear hr
    go_wp2
    go_loopw [5, 6] (fun x i wr => ∃ (k : Nat) (t : Int), k ≤ s.size ∧ x = .int .i64 t ∧ i = .int .i64 k ∧ -1 ≤ t ∧ t < n ∧ runD D (s.data.toList.map (·.toNat)) = runS D t ((s.data.toList.drop k).map (·.toNat)) ∧ Below w1.heap.size w1 wr) (fun _ i _ => s.size - (Go.RowKit.intOf i).toNat)
    case atStart => exact ⟨0, 0, by omega, rfl, rfl, by omega, by omega, HF.out, Below.refl _ _⟩
    case round =>
      obtain ⟨k, t, hk, rfl, rfl, ht0, ht1, hf, hb⟩ := hrel
      have HFF := hidden hf
      have HB := hidden hb
      clear hf hb HF
      by_cases hlt : k < s.size
      · by_cases h0 : t < 0
        · have HE := hidden (HFF.out.trans (runS_stop D h0 _))
          have hq : decide ((0 : Int) ≤ t) = false := decide_eq_false (by omega)
          clear HFF
          go_wp2
          go_ret
          exact ⟨ret_i HE.out.symm, below_then HB1.out HB1.out.size HB.out⟩
        · obtain ⟨j, rfl⟩ : ∃ j : Nat, t = j := ⟨t.toNat, by omega⟩
          have hj : j < n := by omega
          have hq : decide ((0 : Int) ≤ j) = true := decide_eq_true (by omega)
          obtain ⟨c, hc⟩ : ∃ c, c = s[k].toNat := ⟨_, rfl⟩
          have hc256 : c < 256 := by rw [hc]; exact UInt8.toNat_lt _
          have hcx : ((s[k]'hlt).toNat : Int) = (c : Int) := by rw [hc]
          have hin := nxtD_in HRT.out (s := (j : Int)) (by omega) (by rw [← HN.out]; omega) hc256
          have hff := HFF.out
          rw [bytes_drop s hlt, runS, if_neg (by omega), ← hc] at hff
          obtain ⟨b, off, a', c', rfl, hbb, hcl, hrr⟩ := (HN.out ▸ HD.out.next).at (below_then HB1.out HB1.out.size HB.out) j (by rw [← HN.out]; exact hj)
          have hin1 : D.cls c < (D.next.getD j []).length := hin.1
          obtain ⟨b3, off3, rfl, hb3, hc3⟩ := hrr.atZ (Below.refl _ _) (D.cls c) hin1
          have hX := HX1.out.below HB.out
          have hcls := hX.cls hc256
          have c2 := fun (p : Later wr) => Later.cell hX.next hX.lt p
          have c4 := fun (p : Later wr) => Later.cell hcls hX.lt p
          have d0 := fun (p : Later wr) => Later.cell hcl (cell_lt hcl) p
          have d1 := fun (p : Later wr) => Later.cell hc3 (cell_lt hc3) p
          have hci : (c : Int) < 256 := by omega
          have hcl2 : D.cls c < 256 := HD.out.small c hc256
          have hin2 : (D.cls c : Int) < ((D.next.getD j []).length : Int) := by omega
          have hx : (D.next.getD j []).getD (D.cls c) 0 = nxtD D (j : Int) c := rfl
          rw [hx] at d1
          have hx0 := hin.2.1
          have hx1 := hin.2.2
          rw [← HN.out] at hx1
          generalize nxtD D (j : Int) c = x at *
          generalize (D.next.getD j []).length = rl at *
          generalize D.cls c = g at *
          have HG := hidden hff
          clear hff hin hcls hcl hc3 hrr hX hx hc HFF hin1
          go_wp2
          refine wp_region_later (by kernel_rfl) (by kernel_rfl) ?_
          repeat (go_big_quiet_step (fail))
          refine wpQuiet_nil ?_
          rintro _ ⟨⟨_, hb5⟩, rfl⟩
          rename_i w5
          have HB5 := hidden (below_then HB.out HB.out.size hb5)
          clear hb5
          go_wp2
          go_roundw
          case rel => exact ⟨k + 1, x, by omega, by go_num, by go_num, hx0, hx1, HG.out, HB5.out⟩
          case measure => simp [Go.RowKit.intOf]; omega
      · obtain rfl : k = s.size := by omega
        have HE := hidden (show runD D (s.data.toList.map (·.toNat)) = t from by rw [HFF.out, List.drop_eq_nil_of_le (by simp)]; rfl)
        clear HFF
        go_wp2
        go_ret
        exact ⟨ret_i HE.out.symm, below_then HB1.out HB1.out.size HB.out⟩
end Go.Proofs.YtnjjbaodfjmiaaaGreat

/- What a machine of lists says: each number of a row stands for the list that it leads to; lists once each; a word's state stands for the word's list. -/
namespace Go.Proofs.YtnjjbaodfjmiaaaGreat
open Go.RowKit

/-- number x stands for list t -/
def stdF (F : List (List Int)) (x : Int) (t : List Int) : Prop := (t = [] ∧ x = -1) ∨ (t ≠ [] ∧ ∃ k : Nat, x = k ∧ F[k]? = some t)
/-- what is found: the empty list first, each list once -/
def FndOk (F : List (List Int)) : Prop := (∃ r, F = [] :: r) ∧ F.Nodup
theorem pre_get {α : Type} {F G : List α} (h : F <+: G) {k : Nat} {t : α} (hk : F[k]? = some t) : G[k]? = some t := by
  obtain ⟨r, rfl⟩ := h
  have hl := (List.getElem?_eq_some_iff.1 hk).1
  rw [List.getElem?_append_left hl]
  exact hk
theorem pre_getD {α : Type} {F G : List α} (h : F <+: G) {k : Nat} (hk : k < F.length) (d : α) : G.getD k d = F.getD k d := by
  obtain ⟨r, rfl⟩ := h
  simp [List.getD_eq_getElem?_getD, List.getElem?_append_left hk]
theorem stdF.pre {F G : List (List Int)} {x : Int} {t : List Int} (h : stdF F x t) (hp : F <+: G) : stdF G x t := by
  rcases h with h | ⟨h, k, e, hk⟩
  · exact .inl h
  · exact .inr ⟨h, k, e, pre_get hp hk⟩
theorem stdF.bound {F : List (List Int)} {x : Int} {t : List Int} (h : stdF F x t) : -1 ≤ x ∧ x < F.length := by
  rcases h with ⟨_, rfl⟩ | ⟨_, k, rfl, hk⟩
  · constructor <;> omega
  · have := (List.getElem?_eq_some_iff.1 hk).1
    constructor <;> omega
theorem findI_get {F : List (List Int)} {t : List Int} (h : ¬ findI t F 0 < 0) : F[(findI t F 0).toNat]? = some t := by
  have h0 : 0 ≤ findI t F 0 := by omega
  have h1 := findI_yes t F 0 h0
  have h2 : (findI t F 0).toNat < F.length := by
    rcases findI_ge t F 0 with e | e
    · omega
    · omega
  rw [show findI t F 0 - ((0 : Nat) : Int) = findI t F 0 by simp, List.getD_eq_getElem?_getD, List.getElem?_eq_getElem h2] at h1
  rw [List.getElem?_eq_getElem h2]
  simpa using h1
theorem FndOk.zero {F : List (List Int)} (h : FndOk F) : F.getD 0 [] = [] := by
  obtain ⟨⟨r, rfl⟩, _⟩ := h
  rfl
theorem FndOk.pos {F : List (List Int)} (h : FndOk F) : 0 < F.length := by
  obtain ⟨⟨r, rfl⟩, _⟩ := h
  simp
section
variable (go : Nat → List Int → Nat → List Int) (tok : List Int → Int) (W : Nat)
theorem clsS_ok {i : Nat} {s : List (List Int) × List Int} (c : Nat) (hF : FndOk s.1) :
    FndOk (clsS go i s c).1 ∧ ∃ x, (clsS go i s c).2 = s.2 ++ [x] ∧ stdF (clsS go i s c).1 x (go i (s.1.getD i []) c) := by
  unfold clsS
  generalize go i (s.1.getD i []) c = t
  split
  · rename_i h
    exact ⟨hF, -1, rfl, .inl ⟨h, rfl⟩⟩
  · rename_i h
    split
    · rename_i h2
      have hm : t ∉ s.1 := (findI_no t s.1 0).1 (by
        rcases findI_ge t s.1 0 with e | e
        · exact e
        · omega)
      refine ⟨⟨?_, ?_⟩, _, rfl, .inr ⟨h, s.1.length, rfl, by simp⟩⟩
      · obtain ⟨r, e⟩ := hF.1
        exact ⟨r ++ [t], by simp [e]⟩
      · rw [List.nodup_append]
        exact ⟨hF.2, by simp, fun a ha b hb => by
          simp only [List.mem_singleton] at hb
          subst hb
          exact fun e => hm (e ▸ ha)⟩
    · rename_i h2
      exact ⟨hF, _, rfl, .inr ⟨h, (findI t s.1 0).toNat, by omega, findI_get h2⟩⟩
theorem rowS_ok {i : Nat} {F : List (List Int)} (hF : FndOk F) (hi : i < F.length) : ∀ c, FndOk (rowS go i F c).1 ∧ (rowS go i F c).2.length = c ∧
    ∀ d, d < c → stdF (rowS go i F c).1 ((rowS go i F c).2.getD d 0) (go i (F.getD i []) d)
  | 0 => ⟨hF, rfl, fun _ h => absurd h (Nat.not_lt_zero _)⟩
  | c + 1 => by
    obtain ⟨h1, h2, h3⟩ := rowS_ok hF hi c
    have hp := rowS_pre go i F (Nat.zero_le c)
    have hg : (rowS go i F c).1.getD i [] = F.getD i [] := pre_getD hp hi []
    obtain ⟨k1, x, k2, k3⟩ := clsS_ok go (i := i) (s := rowS go i F c) c h1
    rw [hg] at k3
    refine ⟨k1, ?_, fun d hd => ?_⟩
    · show (clsS go i (rowS go i F c) c).2.length = _
      rw [k2]; simp [h2]
    · show stdF (clsS go i (rowS go i F c) c).1 ((clsS go i (rowS go i F c) c).2.getD d 0) _
      rw [k2]
      by_cases e : d = c
      · subst e
        have : ((rowS go i F d).2 ++ [x]).getD d 0 = x := by
          rw [List.getD_eq_getElem?_getD, List.getElem?_append_right (by omega), h2]
          simp
        rw [this]; exact k3
      · have : ((rowS go i F c).2 ++ [x]).getD d 0 = (rowS go i F c).2.getD d 0 := by
          rw [List.getD_eq_getElem?_getD, List.getElem?_append_left (by omega), ← List.getD_eq_getElem?_getD]
        rw [this]
        exact (h3 d (by omega)).pre (clsS_pre go i _ c)
/-- behind n rows -/
theorem outS_ok : ∀ n, n ≤ (outS go tok W n).1.length → FndOk (outS go tok W n).1 ∧ ∀ i, i < n → ((outS go tok W n).2.1.getD i []).length = W ∧
    (∀ c, c < W → stdF (outS go tok W n).1 (((outS go tok W n).2.1.getD i []).getD c 0) (go i ((outS go tok W n).1.getD i []) c)) ∧ (outS go tok W n).2.2.getD i 0 = tok ((outS go tok W n).1.getD i [])
  | 0, _ => ⟨⟨⟨[], rfl⟩, by simp [outS]⟩, fun _ h => absurd h (Nat.not_lt_zero _)⟩
  | n + 1, h => by
    by_cases hn : n < (outS go tok W n).1.length
    · obtain ⟨h1, h2⟩ := outS_ok n (by omega)
      obtain ⟨l1, l2⟩ := outS_lens go tok W n (by omega)
      rw [outS_more go tok W hn]
      generalize outS go tok W n = s at *
      obtain ⟨F, N, L⟩ := s
      simp only at *
      obtain ⟨r1, r2, r3⟩ := rowS_ok go h1 hn W
      have hp := rowS_pre go n F (Nat.zero_le W)
      refine ⟨r1, fun i hi => ?_⟩
      by_cases e : i = n
      · subst e
        have e1 : (N ++ [(rowS go i F W).2]).getD i [] = (rowS go i F W).2 := by
          rw [List.getD_eq_getElem?_getD, List.getElem?_append_right (by omega), l1]; simp
        have e2 : (L ++ [tok ((rowS go i F W).1.getD i [])]).getD i 0 = tok ((rowS go i F W).1.getD i []) := by
          rw [List.getD_eq_getElem?_getD, List.getElem?_append_right (by omega), l2]; simp
        rw [e1, e2, pre_getD hp hn []]
        exact ⟨r2, r3, rfl⟩
      · have e1 : (N ++ [(rowS go n F W).2]).getD i [] = N.getD i [] := by
          rw [List.getD_eq_getElem?_getD, List.getElem?_append_left (by omega), ← List.getD_eq_getElem?_getD]
        have e2 : (L ++ [tok ((rowS go n F W).1.getD n [])]).getD i 0 = L.getD i 0 := by
          rw [List.getD_eq_getElem?_getD, List.getElem?_append_left (by omega), ← List.getD_eq_getElem?_getD]
        rw [e1, e2, pre_getD hp (show i < F.length by omega) []]
        obtain ⟨k1, k2, k3⟩ := h2 i (by omega)
        exact ⟨k1, fun c hc => (k2 c hc).pre hp, k3⟩
    · have e := outS_stop go tok W (i := n) (by omega) 1
      rw [e] at h
      omega
/-- each list that is found is the empty one, or what a step leads to -/
theorem outS_all {P : List Int → Prop} (h0 : P []) (hg : ∀ i l c, P (go i l c)) : ∀ n, ∀ t ∈ (outS go tok W n).1, P t
  | 0, t, h => by
    simp only [outS, List.mem_singleton] at h
    subst h; exact h0
  | n + 1, t, h => by
    have ih := outS_all h0 hg n
    by_cases hn : n < (outS go tok W n).1.length
    · rw [outS_more go tok W hn] at h
      exact rowS_all h0 hg n _ ih W t h
    · have e := outS_stop go tok W (i := n) (by omega) 1
      rw [e] at h
      exact ih t h
where rowS_all {P : List Int → Prop} (h0 : P []) (hg : ∀ i l c, P (go i l c)) (i : Nat) (F : List (List Int)) (hF : ∀ t ∈ F, P t) : ∀ c, ∀ t ∈ (rowS go i F c).1, P t
  | 0, t, h => hF t h
  | c + 1, t, h => by
    have ih := rowS_all h0 hg i F hF c
    have h' : t ∈ (clsS go i (rowS go i F c) c).1 := h
    unfold clsS at h'
    split at h'
    · exact ih t h'
    · split at h'
      · rcases List.mem_append.1 h' with h' | h'
        · exact ih t h'
        · simp only [List.mem_singleton] at h'
          subst h'
          exact hg _ _ _
      · exact ih t h'
end
end Go.Proofs.YtnjjbaodfjmiaaaGreat
