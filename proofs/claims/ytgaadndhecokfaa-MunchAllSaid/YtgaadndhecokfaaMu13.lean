/- KiAsk, KiWid, DfRight, DfGo, put together. -/
import Derived.Test.YtgaadndhecokfaaMu01
import Derived.Test.YtgaadndhecokfaaMu12
import Derived.Test.YtgaadndhecokfaaMu03
/- Contracts of Right and Width, the program's and the reference's. -/
namespace Go.Proofs.Ytgaadndhecokfaa
open Go.RowKit

/-- from place b on, n places: is each class one of those below nx, or nx itself? -/
def rgt (g : Nat → Nat) : Nat → Nat → Nat → Bool
  | 0, _, _ => true
  | n + 1, b, nx => if g b > nx then false else rgt g n (b + 1) (if g b = nx then nx + 1 else nx)
def rightV (g : Nat → Nat) : Bool := rgt g 256 0 0

set_option maxRecDepth 100000 in
theorem krright_calls (g : Nat → Nat) (w : World) (hg : ∀ j, j < 256 → g j < 256) :
    Calls Try.prog 29 #[ar g] w fun e w' => e = .returned (.bool (rightV g)) ∧ Below w.heap.size w w' := by
  have HG := hidden hg
  clear hg
  have hbx := run_box_arr g
  go_enter Try.func29, Try.ntmps29
  go_wp2
  go_loopw [3, 4] (fun x i wr => ∃ k nx : Nat, k ≤ 256 ∧ nx ≤ k ∧ x = .int .i64 nx ∧ i = .int .i64 k ∧ rightV g = rgt g (256 - k) k nx ∧ ArrAt wr w.heap.size 22 (nV g) ∧ Below w.heap.size w wr) (fun _ i _ => 256 - (Go.RowKit.intOf i).toNat)
  case atStart => exact ⟨0, 0, by omega, by omega, rfl, rfl, rfl, ArrAt.new _ _ _, (Below.refl _ _).alloc (Nat.le_refl _) _⟩
  case round =>
    obtain ⟨k, nx, hk, hnx, rfl, rfl, hf, hA, hb⟩ := hrel
    by_cases hlt : k < 256
    · rw [show 256 - k = (256 - (k + 1)) + 1 by omega, rgt] at hf
      have hc := hA.cell hlt
      unfold nV at hc
      have hgk := HG.out k hlt
      have HA := hidden hA
      clear hA
      by_cases h1 : g k > nx
      · rw [if_pos h1] at hf
        have HF := hidden hf
        clear hf
        go_wp2
        go_ret
        exact ⟨ret_b HF.out.symm, hb⟩
      · rw [if_neg h1] at hf
        by_cases h2 : g k = nx
        · rw [if_pos h2] at hf
          have HF := hidden hf
          clear hf
          go_wp2
          go_roundw
          case rel => exact ⟨k + 1, nx + 1, by omega, by omega, by go_num, by go_num, HF.out, HA.out, hb⟩
          case measure => simp [Go.RowKit.intOf]; omega
        · rw [if_neg h2] at hf
          have HF := hidden hf
          clear hf
          go_wp2
          go_roundw
          case rel => exact ⟨k + 1, nx, by omega, by omega, by go_num, by go_num, HF.out, HA.out, hb⟩
          case measure => simp [Go.RowKit.intOf]; omega
    · obtain rfl : k = 256 := by omega
      have HF := hidden hf
      clear hf
      go_wp2
      go_ret
      exact ⟨ret_b HF.out.symm, hb⟩

set_option maxRecDepth 100000 in
theorem kright_calls (g : Nat → Nat) (w : World) (hg : ∀ j, j < 256 → g j < 256) :
    Calls Try.prog 59 #[ar g] w fun e w' => e = .returned (.bool (rightV g)) ∧ Below w.heap.size w w' := by
  have HG := hidden hg
  clear hg
  have hbx := run_box_arr g
  go_enter Try.func59, Try.ntmps59
  go_wp2
  go_loopw [3, 6] (fun x i wr => ∃ k nx : Nat, k ≤ 256 ∧ nx ≤ k ∧ x = .int .i64 nx ∧ i = .int .i64 k ∧ rightV g = rgt g (256 - k) k nx ∧ ArrAt wr w.heap.size 22 (nV g) ∧ Below w.heap.size w wr) (fun _ i _ => 256 - (Go.RowKit.intOf i).toNat)
  case atStart => exact ⟨0, 0, by omega, by omega, rfl, rfl, rfl, ArrAt.new _ _ _, (Below.refl _ _).alloc (Nat.le_refl _) _⟩
  case round =>
    obtain ⟨k, nx, hk, hnx, rfl, rfl, hf, hA, hb⟩ := hrel
    by_cases hlt : k < 256
    · rw [show 256 - k = (256 - (k + 1)) + 1 by omega, rgt] at hf
      have hc := hA.cell hlt
      unfold nV at hc
      have hgk := HG.out k hlt
      have HA := hidden hA
      clear hA
      by_cases h1 : g k > nx
      · rw [if_pos h1] at hf
        have HF := hidden hf
        clear hf
        go_wp2
        go_ret
        exact ⟨ret_b HF.out.symm, hb⟩
      · rw [if_neg h1] at hf
        by_cases h2 : g k = nx
        · rw [if_pos h2] at hf
          have HF := hidden hf
          clear hf
          go_wp2
          go_roundw
          case rel => exact ⟨k + 1, nx + 1, by omega, by omega, by go_num, by go_num, HF.out, HA.out, hb⟩
          case measure => simp [Go.RowKit.intOf]; omega
        · rw [if_neg h2] at hf
          have HF := hidden hf
          clear hf
          go_wp2
          go_roundw
          case rel => exact ⟨k + 1, nx, by omega, by omega, by go_num, by go_num, HF.out, HA.out, hb⟩
          case measure => simp [Go.RowKit.intOf]; omega
    · obtain rfl : k = 256 := by omega
      have HF := hidden hf
      clear hf
      go_wp2
      go_ret
      exact ⟨ret_b HF.out.symm, hb⟩
end Go.Proofs.Ytgaadndhecokfaa

/- Contracts of Width, the program's (by slices.Max) and the reference's. -/
namespace Go.Proofs.Ytgaadndhecokfaa
open Go.RowKit

/-- the greatest of the first n, and one; zero of none -/
def wid (g : Nat → Nat) : Nat → Nat
  | 0 => 0
  | n + 1 => max (wid g n) (g n + 1)
theorem wid_le (g : Nat → Nat) (m : Nat) : ∀ n, (∀ j, j < n → g j < m) → wid g n ≤ m
  | 0, _ => Nat.zero_le _
  | n + 1, h => by
    have h1 := wid_le g m n fun j hj => h j (by omega)
    have h2 := h n (by omega)
    show max (wid g n) (g n + 1) ≤ m
    omega
theorem wid_ge (g : Nat → Nat) {j n : Nat} (h : j < n) : g j + 1 ≤ wid g n := by
  induction n with
  | zero => omega
  | succ n ih =>
    show _ ≤ max (wid g n) (g n + 1)
    by_cases e : j = n
    · subst e; omega
    · have := ih (by omega); omega

set_option maxRecDepth 100000 in
theorem rwidth_calls (g : Nat → Nat) (w : World) (hg : ∀ j, j < 256 → g j < 256) :
    Calls Try.prog 30 #[ar g] w fun e w' => e = .returned (.int .i64 (wid g 256)) ∧ Below w.heap.size w w' := by
  have HG := hidden hg
  clear hg
  have hbx := run_box_arr g
  go_enter Try.func30, Try.ntmps30
  go_wp2
  go_loopw [3, 4] (fun x i wr => ∃ k m : Nat, k ≤ 256 ∧ m = wid g k ∧ x = .int .i64 m ∧ i = .int .i64 k ∧ ArrAt wr w.heap.size 22 (nV g) ∧ Below w.heap.size w wr) (fun _ i _ => 256 - (Go.RowKit.intOf i).toNat)
  case atStart => exact ⟨0, 0, by omega, rfl, rfl, rfl, ArrAt.new _ _ _, (Below.refl _ _).alloc (Nat.le_refl _) _⟩
  case round =>
    obtain ⟨k, m, hk, hm, rfl, rfl, hA, hb⟩ := hrel
    have HM := hidden hm
    clear hm
    by_cases hlt : k < 256
    · have hc := hA.cell hlt
      unfold nV at hc
      have hgk := HG.out k hlt
      have HA := hidden hA
      clear hA
      go_wp2
      refine ⟨⟨k + 1, _, by omega, rfl, ?_, by go_num, HA.out, hb⟩, by simp [Go.RowKit.intOf]; omega⟩
      have := HM.out
      show Value.int .i64 _ = .int .i64 ((max (wid g k) (g k + 1) : Nat) : Int)
      congr 1
      split <;> omega
    · obtain rfl : k = 256 := by omega
      go_wp2
      go_ret
      exact ⟨ret_i (by rw [HM.out]), hb⟩

set_option maxRecDepth 100000 in
theorem max_calls (g : Nat → Nat) (B : Nat) (w : World) (hg : ∀ j, j < 256 → g j < 256) (hA : ArrAt w B 22 (nV g)) :
    Calls Try.prog 77 #[.slice (some ⟨B, 0, none⟩) 256 256] w fun e w' => ∃ m : Nat, m + 1 = wid g 256 ∧ e = .returned (.int .u8 m) ∧ w' = w := by
  have HG := hidden hg
  have HA := hidden hA
  have c0 := hA.cell (j := 0) (by omega)
  unfold nV at c0
  have h0 := hg 0 (by omega)
  clear hg hA
  go_enter Try.func77, Try.ntmps77
  go_wp2
  go_loopw [3, 4] (fun x i wr => ∃ k m : Nat, 1 ≤ k ∧ k ≤ 256 ∧ m + 1 = wid g k ∧ m < 256 ∧ x = .int .u8 m ∧ i = .int .i64 k ∧ wr = w) (fun _ i _ => 256 - (Go.RowKit.intOf i).toNat)
  case atStart => exact ⟨1, g 0, by omega, by omega, by show _ = max 0 (g 0 + 1); omega, h0, rfl, rfl, rfl⟩
  case round =>
    obtain ⟨k, m, hk0, hk, hm, hm2, rfl, rfl, rfl⟩ := hrel
    have HM := hidden hm
    clear hm
    by_cases hlt : k < 256
    · have hc := HA.out.cell hlt
      unfold nV at hc
      have hgk := HG.out k hlt
      go_wp2
      refine ⟨⟨k + 1, max m (g k), by omega, by omega, ?_, by omega, ?_, by go_num, trivial⟩, by simp [Go.RowKit.intOf]; omega⟩
      · have := HM.out
        show _ = max (wid g k) (g k + 1)
        omega
      · congr 1
        split <;> omega
    · obtain rfl : k = 256 := by omega
      go_wp2
      go_ret
      exact ⟨m, HM.out, rfl, rfl⟩

set_option maxRecDepth 100000 in
theorem width_calls (g : Nat → Nat) (w : World) (hg : ∀ j, j < 256 → g j < 256) :
    Calls Try.prog 60 #[ar g] w fun e w' => e = .returned (.int .i64 (wid g 256)) ∧ Below w.heap.size w w' := by
  have HG := hidden hg
  clear hg
  have hbx := run_box_arr g
  go_enter Try.func60, Try.ntmps60
  go_wp2_with fail
  refine (max_calls g _ _ HG.out (ArrAt.new _ _ _)).mono ?_
  rintro e w1 ⟨m, hm, rfl, rfl⟩
  have h1 := wid_le g 256 256 HG.out
  have HM := hidden hm
  have hm2 : m < 256 := by omega
  clear hm h1
  go_wp2
  go_ret
  exact ⟨ret_i (by rw [← HM.out]; rfl), (Below.refl _ _).alloc (Nat.le_refl _) _⟩
end Go.Proofs.Ytgaadndhecokfaa

/- Contract of the reference's Right of a machine. -/
namespace Go.Proofs.Ytgaadndhecokfaa
open Go.RowKit

/-- something is loaded, in a region that only reads -/
theorem quiet_load {C : World → Prop} {o : Oper} {a : Act} {K : Act → Prop} {t : TypeId} {x : Operand} {p : Addr} {v : Value} (ho : o.op = .load t x) (hx : a.eval x = .pointer (some p)) (hA : ∀ w, C w → (loadVar t p).run Try.prog w = .ok v w)
    (h : K (a.put o.dst v)) : o.quiet Try.prog a C K :=
  ⟨v, fun w hw => by
    have hl := hA w hw
    unfold Oper.quietAt execOp
    simp only [ho, hx, Instr.loadAt, Instr.sureAddr, Sem.run_bind, Sem.run_pure, Result.andThen_ok, hl]
    exact ⟨rfl, rfl⟩, h⟩
/-- row i has the machine's width, its label is not below -1, and its numbers are -1 or states -/
def entB (D : DfaM) (x : Int) : Bool := decide (-1 ≤ x) && decide (x < D.next.length)
def rowOk (D : DfaM) (i : Nat) : Bool := decide (((D.next.getD i []).length : Int) = D.width) && (decide (-1 ≤ D.label.getD i 0) && (D.next.getD i []).all (entB D))
def headOk (D : DfaM) : Bool := rightV D.cls && (decide (D.width = wid D.cls 256) && (decide (D.next.length ≠ 0) && decide (D.label.length = D.next.length)))
def rightD (D : DfaM) : Bool := headOk D && (List.range D.next.length).all (rowOk D)
theorem rightD_row {D : DfaM} {i : Nat} (hi : i < D.next.length) (h : rowOk D i = false) : rightD D = false := by
  unfold rightD
  rw [Bool.and_eq_false_iff]
  right
  rw [List.all_eq_false]
  exact ⟨i, by simpa using hi, by simp [h]⟩
theorem rightD_all {D : DfaM} (h1 : headOk D = true) (h2 : ∀ i, i < D.next.length → rowOk D i = true) : rightD D = true := by
  unfold rightD
  rw [h1, Bool.true_and, List.all_eq_true]
  exact fun i hi => h2 i (by simpa using hi)

/-- what reads as a machine -/
structure RdDfa (B : Nat) (w : World) (vn vl : Value) (D : DfaM) : Prop where
  next : RdZZ B w vn D.next
  label : RdZ B w vl D.label
  small : ∀ j, j < 256 → D.cls j < 256
theorem RdDfa.below {B B' : Nat} {w w' : World} {vn vl : Value} {D : DfaM} (h : RdDfa B w vn vl D) (hb : Below B w w') (hB : B ≤ B') : RdDfa B' w' vn vl D := ⟨h.next.below hb hB, h.label.below hb hB, h.small⟩

set_option maxHeartbeats 2000000 in
set_option maxRecDepth 100000 in
theorem rright14_calls {w : World} {vn vl : Value} {D : DfaM} (h : RdDfa w.heap.size w vn vl D) :
    Calls Try.prog 18 #[dfaA D.cls D.width vn vl] w fun e w' => e = .returned (.bool (rightD D)) ∧ Below w.heap.size w w' := by
  obtain ⟨an, cn, rfl⟩ := h.next.form
  obtain ⟨al, cl, rfl⟩ := h.label.form
  have hbn : D.next.length ≤ 9223372036854775807 := by
    obtain ⟨_, _, e, h1, h2, _⟩ := h.next
    unfold maxLen at h2
    omega
  have hbl : D.label.length ≤ 9223372036854775807 := by
    obtain ⟨_, _, e, h1, h2, _⟩ := h.label
    unfold maxLen at h2
    omega
  obtain ⟨n, hn⟩ : ∃ n, n = D.next.length := ⟨_, rfl⟩
  obtain ⟨m, hm⟩ : ∃ m, m = D.label.length := ⟨_, rfl⟩
  rw [← hn] at hbn h ⊢
  rw [← hm] at hbl h ⊢
  have HN := hidden hn
  have HM := hidden hm
  have HD := hidden h
  have HX := hidden (DfaAt.new w D.cls D.width (.slice an n cn) (.slice al m cl))
  have HB0 := hidden ((Below.refl w.heap.size w).alloc (Nat.le_refl _) (.cells (dfaC D.cls D.width (.slice an n cn) (.slice al m cl)) 26))
  have hbx := run_box_dfa D.cls D.width (.slice an n cn) (.slice al m cl)
  clear h hn hm
  go_enter Try.func18, Try.ntmps18
  go_wp2
  obtain ⟨w0, hw0⟩ : ∃ w0, w0 = w.alloc (.cells (dfaC D.cls D.width (.slice an n cn) (.slice al m cl)) 26) := ⟨_, rfl⟩
  rw [← hw0] at HX HB0 ⊢
  have hz0 : w.heap.size < w0.heap.size := by rw [hw0]; simp
  clear hw0
  have HL := hidden (show ∀ w', (∃ p : Later w0, w' = p.at') → (loadVar 22 ⟨w.heap.size, 0, none⟩).run Try.prog w' = .ok (ar D.cls) w' from fun w' ⟨p, e⟩ => by subst e; exact run_load_cls (HX.out.below p.ok))
  have c1 := fun (p : Later w0) => Later.cell HX.out.width hz0 p
  have c2 := fun (p : Later w0) => Later.cell HX.out.next hz0 p
  have c3 := fun (p : Later w0) => Later.cell HX.out.label hz0 p
  have HR := hidden (fun w' => krright_calls D.cls w' HD.out.small)
  have HV := hidden (fun w' => rwidth_calls D.cls w' HD.out.small)
  obtain ⟨nn, hnn⟩ : ∃ nn, nn = wid D.cls 256 := ⟨_, rfl⟩
  rw [← hnn] at HV
  obtain ⟨r1, hr1⟩ : ∃ r, r = rightV D.cls := ⟨_, rfl⟩
  rw [← hr1] at HR
  have HH := hidden (show headOk D = (r1 && (decide (D.width = (nn : Int)) && (decide (n ≠ 0) && decide (m = n)))) from by unfold headOk; rw [hr1, hnn, HN.out, HM.out])
  clear hr1 hnn
  cases r1 with
  | false =>
    have HF := hidden (show rightD D = false by unfold rightD; rw [HH.out]; rfl)
    clear HH
    refine wp_region_later (by kernel_rfl) (by kernel_rfl) ?_
    repeat (first
      | (go_big_quiet_want; (first | (refine quiet_load (x := .tmp 5) rfl rfl HL.out ?_) | (refine quiet_load (x := .tmp 12) rfl rfl HL.out ?_)); simp only [Act.put, List.setIfInBounds_toArray, List.set_cons_zero, List.set_cons_succ]; go_big_quiet_on)
      | go_big_quiet_step ((first | (go_at_call 29; exact Later.calls (HR.out _)) | (go_at_call 30; exact Later.calls (HV.out _)))))
    refine wpQuiet_nil ?_
    rintro _ ⟨⟨_, hb1⟩, rfl⟩
    rename_i w1
    go_wp2
    go_ret
    exact ⟨ret_b HF.out.symm, below_then HB0.out HB0.out.size hb1⟩
  | true =>
    by_cases k2 : D.width = (nn : Int)
    · have q2 : (D.width == (nn : Int)) = true := by simp [k2]
      have q2' : (D.width != (nn : Int)) = false := by simp [k2]
      by_cases k3 : n = 0
      · have HF := hidden (show rightD D = false by unfold rightD; rw [HH.out]; simp [k3])
        have q3 : ((n : Int) == 0) = true := by simp [k3]
        have k2H := hidden k2
        have k3H := hidden k3
        clear HH k2 k3
        refine wp_region_later (by kernel_rfl) (by kernel_rfl) ?_
        repeat (first
          | (go_big_quiet_want; (first | (refine quiet_load (x := .tmp 5) rfl rfl HL.out ?_) | (refine quiet_load (x := .tmp 12) rfl rfl HL.out ?_)); simp only [Act.put, List.setIfInBounds_toArray, List.set_cons_zero, List.set_cons_succ]; go_big_quiet_on)
          | go_big_quiet_step ((first | (go_at_call 29; exact Later.calls (HR.out _)) | (go_at_call 30; exact Later.calls (HV.out _)))))
        refine wpQuiet_nil ?_
        rintro _ ⟨⟨_, hb1⟩, rfl⟩
        rename_i w1
        go_wp2
        go_ret
        exact ⟨ret_b HF.out.symm, below_then HB0.out HB0.out.size hb1⟩
      · have q3 : ((n : Int) == 0) = false := by simp [k3]
        by_cases k4 : m = n
        · have HOK := hidden (show headOk D = true by rw [HH.out]; simp [k2, k3, k4])
          have q4 : ((m : Int) == (n : Int)) = true := by simp [k4]
          have q4' : ((m : Int) != (n : Int)) = false := by simp [k4]
          have k2H := hidden k2
          have k3H := hidden k3
          have k4H := hidden k4
          clear HH k2 k3 k4
          refine wp_region_later (by kernel_rfl) (by kernel_rfl) ?_
          repeat (first
            | (go_big_quiet_want; (first | (refine quiet_load (x := .tmp 5) rfl rfl HL.out ?_) | (refine quiet_load (x := .tmp 12) rfl rfl HL.out ?_)); simp only [Act.put, List.setIfInBounds_toArray, List.set_cons_zero, List.set_cons_succ]; go_big_quiet_on)
            | go_big_quiet_step ((first | (go_at_call 29; exact Later.calls (HR.out _)) | (go_at_call 30; exact Later.calls (HV.out _)))))
          refine wpQuiet_nil ?_
          rintro _ ⟨⟨_, hb1⟩, rfl⟩
          rename_i w1
          have hz1 := hb1.size
          have HX1 := hidden (HX.out.below hb1)
          have HB1 := hidden (below_then HB0.out HB0.out.size hb1)
          clear hb1 c1 c2 c3 HX HB0 HL HR HV q2 q2' q3 q4 q4' hbx
          go_wp2
          go_loopw [3] (fun i wr => ∃ k : Nat, k ≤ n ∧ i = .int .i64 k ∧ (∀ j, j < k → rowOk D j = true) ∧ Below w1.heap.size w1 wr) (fun i _ => n - (Go.RowKit.intOf i).toNat)
          case atStart => exact ⟨0, by omega, rfl, fun j h => by omega, Below.refl _ _⟩
          case round =>
            obtain ⟨k, hk, rfl, hro, hbr⟩ := hrel
            have HRO := hidden hro
            have HBR := hidden hbr
            clear hro hbr
            have hX := HX1.out.below HBR.out
            have c1 := fun (p : Later wr) => Later.cell hX.width hX.lt p
            have c2 := fun (p : Later wr) => Later.cell hX.next hX.lt p
            have c3 := fun (p : Later wr) => Later.cell hX.label hX.lt p
            have e1 := hX.width
            have e2 := hX.next
            have HXR := hidden hX
            clear hX
            by_cases hlt : k < n
            · obtain ⟨wq, rfl⟩ : ∃ wq, wq = wr := ⟨wr, rfl⟩
              have hkd : decide ((k : Int) < n) = true := decide_eq_true (by omega)
              obtain ⟨r, hr⟩ : ∃ r, r = D.next.getD k [] := ⟨_, rfl⟩
              obtain ⟨rl, hrl⟩ : ∃ rl, rl = r.length := ⟨_, rfl⟩
              obtain ⟨lb, hlb⟩ : ∃ lb, lb = D.label.getD k 0 := ⟨_, rfl⟩
              obtain ⟨b, off, a', c', rfl, hbb, hc, hrr⟩ := (HN.out ▸ HD.out.next).at (below_then HB1.out HB1.out.size HBR.out) k (by rw [← HN.out]; exact hlt)
              obtain ⟨b2, off2, rfl, hbb2, hc2⟩ := (HM.out ▸ HD.out.label).atZ (below_then HB1.out HB1.out.size HBR.out) k (by rw [← HM.out, k4H.out]; exact hlt)
              rw [← hr] at hc hrr
              rw [← hrl] at hc hrr
              rw [← hlb] at hc2
              have HRW := hidden (show rowOk D k = (decide ((rl : Int) = D.width) && (decide (-1 ≤ lb) && r.all (entB D))) from by unfold rowOk; rw [← hr, ← hrl, ← hlb])
              have hbr : rl ≤ 9223372036854775807 := by
                obtain ⟨_, _, e, h1, h2, _⟩ := hrr
                rw [← hrl] at h1
                unfold maxLen at h2
                omega
              have HRR := hidden hrr
              have HRL := hidden hrl
              have d0 := fun (p : Later wq) => Later.cell hc (cell_lt hc) p
              have d1 := fun (p : Later wq) => Later.cell hc2 (cell_lt hc2) p
              have HC := hidden hc
              have hbl2 : (k : Int) < m := by rw [k4H.out]; omega
              have hbn2 : (k : Int) < n := by omega
              clear hr hrl hlb hrr hc hc2
              by_cases j1 : (rl : Int) = D.width
              · have p1 : ((rl : Int) == D.width) = true := by simp [j1]
                have p1' : ((rl : Int) != D.width) = false := by simp [j1]
                by_cases j2 : lb < -1
                · have p2 : decide (lb < -1) = true := decide_eq_true j2
                  have HF := hidden (rightD_row (D := D) (i := k) (by rw [← HN.out]; exact hlt) (by rw [HRW.out]; simp; omega))
                  have j1H := hidden j1
                  have j2H := hidden j2
                  clear j1 j2 HRW
                  go_wp2
                  refine wp_region_later (by kernel_rfl) (by kernel_rfl) ?_
                  repeat (go_big_quiet_step (fail))
                  refine wpQuiet_nil ?_
                  rintro _ ⟨⟨_, hb5⟩, rfl⟩
                  rename_i w5
                  go_wp2
                  go_ret
                  exact ⟨ret_b HF.out.symm, below_then HB1.out HB1.out.size (below_then HBR.out HBR.out.size hb5)⟩
                · have p2 : decide (lb < -1) = false := decide_eq_false j2
                  have HRW2 := hidden (show rowOk D k = r.all (entB D) from by rw [HRW.out]; simp [j1, show -1 ≤ lb by omega])
                  have j1H := hidden j1
                  clear j1 j2 HRW
                  go_wp2
                  refine wp_region_later (by kernel_rfl) (by kernel_rfl) ?_
                  repeat (go_big_quiet_step (fail))
                  refine wpQuiet_nil ?_
                  rintro _ ⟨⟨_, hb5⟩, rfl⟩
                  rename_i w5
                  have HB5 := hidden hb5
                  clear hb5 c1 c2 c3 e1 e2 d0 d1 p1 p1' p2 HXR
                  go_wp2
                  go_loopw [4] (fun i wr => ∃ c : Nat, c ≤ rl ∧ i = .int .i64 c ∧ (∀ j, j < c → entB D (r.getD j 0) = true) ∧ Below wq.heap.size wq wr) (fun i _ => rl - (Go.RowKit.intOf i).toNat)
                  case atStart => exact ⟨0, by omega, rfl, fun j h => by omega, HB5.out⟩
                  case round =>
                    obtain ⟨c, hcl, rfl, hen, hbi⟩ := hrel
                    have HEN := hidden hen
                    have HBI := hidden hbi
                    have hX := (HX1.out.below HBR.out).below hbi
                    have c1 := fun (p : Later wr) => Later.cell hX.width hX.lt p
                    have c2 := fun (p : Later wr) => Later.cell hX.next hX.lt p
                    have e1 := hX.width
                    rw [← j1H.out] at e1 c1
                    have hcw := (hbi.cell (p := ⟨b, off + k, none⟩) (cell_lt HC.out)).trans HC.out
                    have d0 := fun (p : Later wr) => Later.cell hcw (cell_lt hcw) p
                    clear hen hbi hX hcw
                    by_cases hcl2 : c < rl
                    · obtain ⟨b3, off3, rfl, hb3, hc3⟩ := HRR.out.atZ (HBI.out.mono ((below_then HB1.out HB1.out.size HBR.out).size)) c (by rw [← HRL.out]; exact hcl2)
                      have d2 := fun (p : Later wr) => Later.cell hc3 (cell_lt hc3) p
                      have hc4 : (c : Int) < rl := by omega
                      obtain ⟨x, hx⟩ : ∃ x, x = r.getD c 0 := ⟨_, rfl⟩
                      rw [← hx] at d2
                      have HXI := hidden (show x ∈ r from by rw [hx]; have h1 : c < r.length := by rw [← HRL.out]; exact hcl2
                                                             simp [List.getD_eq_getElem?_getD, h1])
                      have HXX := hidden hx
                      clear hx hc3
                      have HNO := hidden (fun (h : entB D x = false) => rightD_row (D := D) (i := k) (by rw [← HN.out]; exact hlt) (by rw [HRW2.out, List.all_eq_false]; exact ⟨x, HXI.out, by simp [h]⟩))
                      by_cases l1 : x < -1
                      · have HF := hidden (HNO.out (by unfold entB; simp; omega))
                        have p3 : decide (x < -1) = true := decide_eq_true l1
                        have l1H := hidden l1
                        clear l1
                        go_wp2
                        refine wp_region_later (by kernel_rfl) (by kernel_rfl) ?_
                        repeat (go_big_quiet_step (fail))
                        refine wpQuiet_nil ?_
                        rintro _ ⟨⟨_, hb5⟩, rfl⟩
                        rename_i w5
                        go_wp2
                        go_ret
                        exact ⟨ret_b HF.out.symm, below_then HB1.out HB1.out.size (below_then HBR.out HBR.out.size (below_then HBI.out HBI.out.size hb5))⟩
                      · have p3 : decide (x < -1) = false := decide_eq_false l1
                        by_cases l2 : x < n
                        · have p4 : decide ((n : Int) ≤ x) = false := decide_eq_false (by omega)
                          have HE := hidden (show entB D x = true from by unfold entB; rw [← HN.out]; simp; omega)
                          clear l1 l2
                          go_wp2
                          refine wp_region_later (by kernel_rfl) (by kernel_rfl) ?_
                          repeat (go_big_quiet_step (fail))
                          refine wpQuiet_nil ?_
                          rintro _ ⟨⟨_, hb5⟩, rfl⟩
                          rename_i w5
                          have HB7 := hidden (below_then HBI.out HBI.out.size hb5)
                          clear hb5
                          go_wp2
                          go_roundw
                          case rel => exact ⟨c + 1, by omega, by go_num, fun j hj => by
                              by_cases e : j = c
                              · subst e; rw [← HXX.out]; exact HE.out
                              · exact HEN.out j (by omega), HB7.out⟩
                          case measure => simp [Go.RowKit.intOf]; omega
                        · have p4 : decide ((n : Int) ≤ x) = true := decide_eq_true (by omega)
                          have HF := hidden (HNO.out (by unfold entB; rw [← HN.out]; simp; omega))
                          clear l1 l2
                          go_wp2
                          refine wp_region_later (by kernel_rfl) (by kernel_rfl) ?_
                          repeat (go_big_quiet_step (fail))
                          refine wpQuiet_nil ?_
                          rintro _ ⟨⟨_, hb5⟩, rfl⟩
                          rename_i w5
                          go_wp2
                          go_ret
                          exact ⟨ret_b HF.out.symm, below_then HB1.out HB1.out.size (below_then HBR.out HBR.out.size (below_then HBI.out HBI.out.size hb5))⟩
                    · obtain rfl : c = rl := by omega
                      have HE := hidden (show rowOk D k = true from by
                        rw [HRW2.out, List.all_eq_true]
                        intro x hx
                        obtain ⟨j, hj, rfl⟩ := List.mem_iff_getElem.1 hx
                        have := HEN.out j (by rw [HRL.out]; exact hj)
                        simpa [List.getD_eq_getElem?_getD, hj] using this)
                      have HB7 := hidden (below_then HBR.out HBR.out.size HBI.out)
                      go_wp2
                      refine ⟨⟨k + 1, by omega, by go_num, fun j hj => ?_, HB7.out⟩, by simp [Go.RowKit.intOf]; omega⟩
                      by_cases e : j = k
                      · subst e; exact HE.out
                      · exact HRO.out j (by omega)
              · have p1 : ((rl : Int) == D.width) = false := by simpa using j1
                have p1' : ((rl : Int) != D.width) = true := by simpa using j1
                have HF := hidden (rightD_row (D := D) (i := k) (by rw [← HN.out]; exact hlt) (by rw [HRW.out]; simp [j1]))
                have j1H := hidden j1
                clear j1 HRW
                go_wp2
                refine wp_region_later (by kernel_rfl) (by kernel_rfl) ?_
                repeat (go_big_quiet_step (fail))
                refine wpQuiet_nil ?_
                rintro _ ⟨⟨_, hb5⟩, rfl⟩
                rename_i w5
                go_wp2
                go_ret
                exact ⟨ret_b HF.out.symm, below_then HB1.out HB1.out.size (below_then HBR.out HBR.out.size hb5)⟩
            · obtain rfl : k = n := by omega
              have HF := hidden (rightD_all HOK.out (fun i hi => HRO.out i (by rw [HN.out]; exact hi)))
              go_wp2
              go_ret
              exact ⟨ret_b HF.out.symm, below_then HB1.out HB1.out.size HBR.out⟩
        · have HF := hidden (show rightD D = false by unfold rightD; rw [HH.out]; simp [k4])
          have q4 : ((m : Int) == (n : Int)) = false := by simp; omega
          have q4' : ((m : Int) != (n : Int)) = true := by simp; omega
          have k2H := hidden k2
          have k3H := hidden k3
          have k4H := hidden k4
          clear HH k2 k3 k4
          refine wp_region_later (by kernel_rfl) (by kernel_rfl) ?_
          repeat (first
            | (go_big_quiet_want; (first | (refine quiet_load (x := .tmp 5) rfl rfl HL.out ?_) | (refine quiet_load (x := .tmp 12) rfl rfl HL.out ?_)); simp only [Act.put, List.setIfInBounds_toArray, List.set_cons_zero, List.set_cons_succ]; go_big_quiet_on)
            | go_big_quiet_step ((first | (go_at_call 29; exact Later.calls (HR.out _)) | (go_at_call 30; exact Later.calls (HV.out _)))))
          refine wpQuiet_nil ?_
          rintro _ ⟨⟨_, hb1⟩, rfl⟩
          rename_i w1
          go_wp2
          go_ret
          exact ⟨ret_b HF.out.symm, below_then HB0.out HB0.out.size hb1⟩
    · have HF := hidden (show rightD D = false by unfold rightD; rw [HH.out]; simp [k2])
      have q2 : (D.width == (nn : Int)) = false := by simpa using k2
      have q2' : (D.width != (nn : Int)) = true := by simpa using k2
      have k2H := hidden k2
      clear HH k2
      refine wp_region_later (by kernel_rfl) (by kernel_rfl) ?_
      repeat (first
        | (go_big_quiet_want; (first | (refine quiet_load (x := .tmp 5) rfl rfl HL.out ?_) | (refine quiet_load (x := .tmp 12) rfl rfl HL.out ?_)); simp only [Act.put, List.setIfInBounds_toArray, List.set_cons_zero, List.set_cons_succ]; go_big_quiet_on)
        | go_big_quiet_step ((first | (go_at_call 29; exact Later.calls (HR.out _)) | (go_at_call 30; exact Later.calls (HV.out _)))))
      refine wpQuiet_nil ?_
      rintro _ ⟨⟨_, hb1⟩, rfl⟩
      rename_i w1
      go_wp2
      go_ret
      exact ⟨ret_b HF.out.symm, below_then HB0.out HB0.out.size hb1⟩
end Go.Proofs.Ytgaadndhecokfaa

/- Contracts of the reference's Go and Label of a machine. -/
namespace Go.Proofs.Ytgaadndhecokfaa
open Go.RowKit

/-- the whole machine is loaded -/
theorem load_dfa {ops : Array Oper} {rest : List Oper} {o : Oper} {a : Act} {w : World} {Q : Exit → Act → World → Prop} (hgd : o.guard = none) {x : Operand} (ho : o.op = .load 26 x)
    {B : Nat} {g : Nat → Nat} {wd : Int} {vn vl : Value} (hx : a.eval x = .pointer (some ⟨B, 0, none⟩)) (hA : DfaAt w B g wd vn vl)
    (h : wpList Try.prog ops Q rest (a.put o.dst (dfaA g wd vn vl)) w) : wpList Try.prog ops Q (o :: rest) a w :=
  wpList_load_row hgd 26 x ho B hx 26 _ _ _ hA Try.underlying26 rfl (by rw [dfaC_size]; exact size_dfa) h
theorem rightD_spec {D : DfaM} (h : rightD D = true) : rightV D.cls = true ∧ D.width = wid D.cls 256 ∧ D.next.length ≠ 0 ∧ D.label.length = D.next.length ∧
    ∀ i, i < D.next.length → ((D.next.getD i []).length : Int) = D.width ∧ -1 ≤ D.label.getD i 0 ∧ ∀ x ∈ D.next.getD i [], -1 ≤ x ∧ x < D.next.length := by
  unfold rightD headOk at h
  simp only [Bool.and_eq_true, decide_eq_true_eq, List.all_eq_true, List.mem_range] at h
  obtain ⟨⟨h1, h2, h3, h4⟩, h5⟩ := h
  refine ⟨h1, h2, h3, h4, fun i hi => ?_⟩
  have := h5 i hi
  unfold rowOk entB at this
  simp only [Bool.and_eq_true, decide_eq_true_eq, List.all_eq_true] at this
  exact ⟨this.1, this.2.1, this.2.2⟩
theorem getD_mem {l : List Int} {k : Nat} (h : k < l.length) : l.getD k 0 ∈ l := by
  rw [List.getD_eq_getElem?_getD, List.getElem?_eq_getElem h]
  exact List.getElem_mem h
/-- the state behind state s by byte c -/
def nxtD (D : DfaM) (s : Int) (c : Nat) : Int := (D.next.getD s.toNat []).getD (D.cls c) 0
theorem nxtD_in {D : DfaM} (h : rightD D = true) {s : Int} (h0 : 0 ≤ s) (h1 : s < D.next.length) {c : Nat} (hc : c < 256) : D.cls c < (D.next.getD s.toNat []).length ∧ -1 ≤ nxtD D s c ∧ nxtD D s c < D.next.length := by
  obtain ⟨_, h2, _, _, h5⟩ := rightD_spec h
  obtain ⟨h6, _, h7⟩ := h5 s.toNat (by omega)
  have h8 := wid_ge D.cls hc
  have h9 : D.cls c < (D.next.getD s.toNat []).length := by omega
  refine ⟨h9, ?_⟩
  unfold nxtD
  exact h7 _ (getD_mem h9)
def labelD (D : DfaM) (s : Int) : Int := if rightD D = true ∧ 0 ≤ s ∧ s < D.label.length then D.label.getD s.toNat 0 else -1

end Go.Proofs.Ytgaadndhecokfaa
