/- 'LiveSame' answers true for every machine and word: what is trimmed reads each word with the same label, trimmed again it is the same, and each of its states but the first counts. -/
import Derived.Test.YtnjjbaodfjmiaaaGreatLt41
import Derived.Test.YtnjjbaodfjmiaaaGreatLt43
namespace Go.Proofs.YtnjjbaodfjmiaaaGreat
open Go.RowKit Go.Lib Go.Joins
attribute [local go_sem] Rl.evalR_tmp Rl.evalR_const Rl.evalR_global Rl.evalR_func

theorem on_cell {l : List Bool} {k : Nat} (h : On l k) : l.getD k false = true := h
theorem ext_small (s : ByteArray) (k : Nat) : ∀ b ∈ (s.extract 0 k).data.toList.map (·.toNat), b < 256 := by
  intro b hb
  obtain ⟨c, _, rfl⟩ := List.mem_map.1 hb
  exact c.toNat_lt
theorem ext_size (s : ByteArray) (k : Nat) (h : s.size ≤ maxLen) : (s.extract 0 k).size ≤ maxLen := by
  rw [ByteArray.size_extract]
  omega
set_option maxHeartbeats 16000000 in
set_option maxRecDepth 100000 in
theorem walkLiveSame (vn vl : Value) (D : DfaM) (s : ByteArray) (w : World) (h : RdDfa w.heap.size w vn vl D) (hs : s.size ≤ maxLen) :
    Calls Tryz.prog 5 #[dfaA D.cls D.width vn vl, .string s] w fun e w' => e = .returned (.bool true) ∧ Below w.heap.size w w' := by
  obtain ⟨an, cn, rfl⟩ := h.next.form
  have HRD := hidden h
  have HSZ := hidden hs
  have HX0 := hidden (DfaAt.new w D.cls D.width (.slice an D.next.length cn) vl)
  have HB0 := hidden ((Below.refl w.heap.size w).alloc (Nat.le_refl _) (.cells (dfaC D.cls D.width (.slice an D.next.length cn) vl) 26))
  have HSM := hidden (smallM_calls (h.below HB0.out HB0.out.size))
  have hbx := run_box_dfa D.cls D.width (.slice an D.next.length cn) vl
  have hal := run_zero_dfa
  obtain ⟨n, hn⟩ : ∃ n, n = D.next.length := ⟨_, rfl⟩
  rw [← hn] at HRD HX0 HB0 HSM hbx ⊢
  have HN := hidden hn
  clear h hn hs
  go_enter Tryz.func5, Tryz.ntmps5
  go_wp2_with (refine load_dfa rfl (x := .tmp 2) rfl rfl HX0.out ?_)
  refine HSM.out.mono ?_
  rintro e wa ⟨rfl, hb1⟩
  have HXA := hidden (HX0.out.below hb1)
  have HBA := hidden (below_then HB0.out HB0.out.size hb1)
  obtain ⟨B, hB⟩ : ∃ B, B = w.heap.size := ⟨_, rfl⟩
  rw [← hB] at HXA ⊢
  have HBE := hidden hB
  clear hb1 hB HX0 HB0 HSM hbx
  cases hsm : smallM D with
  | false =>
    clear hsm
    go_wp2_with fail
    refine (knows15_calls _).mono ?_
    rintro e w2 ⟨rfl, hb2⟩
    go_wp2
    go_ret
    exact ⟨rfl, below_then (HBE.out ▸ HBA.out) HBA.out.size hb2⟩
  | true =>
    clear hsm
    have e0 := HXA.out.next
    by_cases p1 : 60 < n
    · have q2 : decide ((60 : Int) < (n : Int)) = true := decide_eq_true (by omega)
      have q3 : decide (60 < n) = true := decide_eq_true p1
      clear p1
      go_wp2_with fail
      refine (knows15_calls _).mono ?_
      rintro e w2 ⟨rfl, hb2⟩
      go_wp2
      go_ret
      exact ⟨rfl, below_then (HBE.out ▸ HBA.out) HBA.out.size hb2⟩
    have q2 : decide ((60 : Int) < (n : Int)) = false := decide_eq_false (by omega)
    have q3 : decide (60 < n) = false := decide_eq_false p1
    have hN : D.next.length ≤ 1000 := by have := HN.out; omega
    have HNN := hidden hN
    clear p1 hN
    by_cases p1 : 60 < s.size
    · have q4 : decide ((60 : Int) < (s.size : Int)) = true := decide_eq_true (by omega)
      have q5 : decide (60 < s.size) = true := decide_eq_true p1
      clear p1
      go_wp2_with fail
      refine (knows15_calls _).mono ?_
      rintro e w2 ⟨rfl, hb2⟩
      go_wp2
      go_ret
      exact ⟨rfl, below_then (HBE.out ▸ HBA.out) HBA.out.size hb2⟩
    have q4 : decide ((60 : Int) < (s.size : Int)) = false := decide_eq_false (by omega)
    have q5 : decide (60 < s.size) = false := decide_eq_false p1
    have hs60 : s.size ≤ 60 := by omega
    have HT := hidden (ltrim_calls (HRD.out.below HBA.out HBA.out.size) HNN.out)
    clear p1
    go_wp2_with (refine load_dfa rfl (x := .tmp 2) rfl rfl HXA.out ?_)
    refine HT.out.mono ?_
    rintro e w4 ⟨vn2, vl2, rfl, hr4, hb4⟩
    obtain ⟨an2, cn2, rfl⟩ := hr4.next.form
    obtain ⟨al2, cl2, rfl⟩ := hr4.label.form
    have HX4 := hidden (HXA.out.below hb4)
    have HB4 := hidden (below_then HBA.out HBA.out.size hb4)
    have HR4 := hidden hr4
    have hb5 := (Below.refl w4.heap.size w4).alloc (Nat.le_refl _) (.cells (dfaC zG 0 (.slice none 0 0) (.slice none 0 0)) 26)
    obtain ⟨X, hX⟩ : ∃ X, X = trimM D := ⟨_, rfl⟩
    rw [← hX] at HR4 ⊢
    have HXE := hidden hX
    obtain ⟨m, hm⟩ : ∃ m, m = X.next.length := ⟨_, rfl⟩
    rw [← hm] at HR4 ⊢
    have HM := hidden hm
    clear hr4 hb4 HT hX hm e0 q2 q3 q4 q5
    dsimp only
    have hx4 := HX4.out.lt
    go_wp2_with (first
      | (refine store_dfa rfl (x := .tmp 5) (y := .tmp 26) rfl rfl rfl (DfaAt.new w4 zG 0 (.slice none 0 0) (.slice none 0 0)) rfl rfl ?_; intro w5 hA5 hg5 hs5; have HY5 := hidden hA5; have HB45 := hidden (hb5.grown hg5 (by simp) (by intro k hk; simp only [Option.some.injEq] at hk; omega)); have HX5 := hidden (HX4.out.below HB45.out); clear hA5 hg5 hs5)
      | (refine load_dfa rfl (x := .tmp 2) rfl rfl HX5.out ?_)
      | fail)
    obtain ⟨XB, hXB⟩ : ∃ b, b = w4.heap.size := ⟨_, rfl⟩
    rw [← hXB] at HY5 ⊢
    have HB5 := hidden (below_then HB4.out HB4.out.size HB45.out)
    have HRD5 := hidden (HRD.out.below HB5.out HB5.out.size)
    have HRX5 := hidden (HR4.out.below HB45.out HB45.out.size)
    refine (rright14_calls HRD5.out).mono ?_
    rintro e w6 ⟨rfl, hb6⟩
    have HB6 := hidden (below_then HB5.out HB5.out.size hb6)
    have HX6 := hidden (HX5.out.below hb6)
    have HY6 := hidden (HY5.out.below hb6)
    have HRD6 := hidden (HRD5.out.below hb6 hb6.size)
    have HRX6 := hidden (HRX5.out.below hb6 hb6.size)
    clear hb6 HX5 HY5 HRD5 HRX5 HB5 HB45 HX4 HB4 HR4 hb5 hXB hx4 HXA HBA HRD hal
    cases hrr : rightD D with
    | false =>
      have q6 : m = 0 := by rw [HM.out, HXE.out]; unfold trimM; rw [if_neg (by simp [hrr])]; rfl
      clear hrr
      subst q6
      have e0 := HY6.out.next
      go_wp2_with fail
      refine (knows15_calls _).mono ?_
      rintro e w7 ⟨rfl, hb7⟩
      go_wp2
      go_ret
      exact ⟨rfl, below_then (HBE.out ▸ HB6.out) HB6.out.size hb7⟩
    | true =>
      have HXT := hidden (show X = trimX D by rw [HXE.out]; unfold trimM; rw [if_pos hrr])
      have HXR := hidden (show rightD X = true by rw [HXT.out]; exact trim_right hrr)
      have HRDS := hidden (fun k => (show labelD X (runD X ((s.extract 0 k).data.toList.map (·.toNat))) = labelD D (runD D ((s.extract 0 k).data.toList.map (·.toNat))) by rw [HXT.out]; exact trim_reads hrr (ext_small s k)))
      have HALL := hidden (fun k (hk : k < m) => (show k = 0 ∨ (Rch X k ∧ Alv X k) by rw [HXT.out]; exact trim_all hrr (by rw [← HXT.out, ← HM.out]; exact hk)))
      have HAG := hidden (show trimM X = X by rw [HXT.out]; exact trim_again hrr)
      have hml : m ≤ 1000 := by
        rw [HM.out, HXT.out, (trim_len (D := D)).1]
        have h5 := keptL_le D D.next.length
        have h4 := HNN.out
        omega
      clear hrr
      go_wp2
      go_loopw [6] (fun iv wr => ∃ k : Nat, k ≤ s.size + 1 ∧ iv = .int .i64 k ∧ Below w6.heap.size w6 wr) (fun i _ => s.size + 1 - (Go.RowKit.intOf i).toNat)
      case atStart => exact ⟨0, by omega, rfl, Below.refl _ _⟩
      case round =>
      obtain ⟨k, hk, rfl, hbr⟩ := hrel
      have HBR := hidden hbr
      have HX := hidden (fun W (hb : Below wr.heap.size wr W) => HX6.out.below (below_then hbr hbr.size hb))
      have HY := hidden (fun W (hb : Below wr.heap.size wr W) => HY6.out.below (below_then hbr hbr.size hb))
      have HRX := hidden (fun W (hb : Below wr.heap.size wr W) => HRX6.out.below (below_then hbr hbr.size hb) (below_then hbr hbr.size hb).size)
      have HRY := hidden (fun W (hb : Below wr.heap.size wr W) => HRD6.out.below (below_then hbr hbr.size hb) (below_then hbr hbr.size hb).size)
      clear hbr
      by_cases hlt : k ≤ s.size
      · have q0 : decide ((k : Int) ≤ (s.size : Int)) = true := decide_eq_true (by omega)
        have q0' : decide (k ≤ s.size) = true := decide_eq_true hlt
        have hsl : ∀ W : World, (Instr.slice 9 (.string s) none (some (.int .i64 (k : Int))) none).run Tryz.prog W = .ok (.string (s.extract 0 k)) W := fun W => by
          rw [run_slice_string_to_if, if_pos ⟨by omega, by omega⟩]
          rfl
          exact Tryz.underlying9
        obtain ⟨r1, hr1⟩ : ∃ r, r = runD X ((s.extract 0 k).data.toList.map (·.toNat)) := ⟨_, rfl⟩
        obtain ⟨r2, hr2⟩ : ∃ r, r = runD D ((s.extract 0 k).data.toList.map (·.toNat)) := ⟨_, rfl⟩
        obtain ⟨la, hla⟩ : ∃ r, r = labelD X r1 := ⟨_, rfl⟩
        have hl2 : labelD D r2 = la := by rw [hla, hr1, hr2, HRDS.out k]
        have HR1 := hidden (fun W (hb : Below wr.heap.size wr W) => (hr1 ▸ rrun14_calls (s.extract 0 k) (HRX.out W hb) (ext_size s k HSZ.out) : Calls Tryz.prog 25 #[dfaA X.cls X.width (.slice an2 m cn2) (.slice al2 X.label.length cl2), .string (s.extract 0 k)] W fun e w' => e = .returned (.int .i64 r1) ∧ Below W.heap.size W w'))
        have HR2 := hidden (fun W (hb : Below wr.heap.size wr W) => (hr2 ▸ rrun14_calls (s.extract 0 k) (HRY.out W hb) (ext_size s k HSZ.out) : Calls Tryz.prog 25 #[dfaA D.cls D.width (.slice an n cn) vl, .string (s.extract 0 k)] W fun e w' => e = .returned (.int .i64 r2) ∧ Below W.heap.size W w'))
        have HL1 := hidden (fun W (hb : Below wr.heap.size wr W) => (hla ▸ rlabel_calls r1 (HRX.out W hb) : Calls Tryz.prog 24 #[dfaA X.cls X.width (.slice an2 m cn2) (.slice al2 X.label.length cl2), .int .i64 r1] W fun e w' => e = .returned (.int .i64 la) ∧ Below W.heap.size W w'))
        have HL2 := hidden (fun W (hb : Below wr.heap.size wr W) => (hl2 ▸ rlabel_calls r2 (HRY.out W hb) : Calls Tryz.prog 24 #[dfaA D.cls D.width (.slice an n cn) vl, .int .i64 r2] W fun e w' => e = .returned (.int .i64 la) ∧ Below W.heap.size W w'))
        clear hr1 hr2 hla hl2
        go_wp2_with fail
        refine Rl.wp_region_steps (R := fun w1 w2 => Below w1.heap.size w1 w2) (Rl.typ [Rl.Is (dfaA X.cls X.width (.slice an2 m cn2) (.slice al2 X.label.length cl2)), Rl.Is (dfaA X.cls X.width (.slice an2 m cn2) (.slice al2 X.label.length cl2)), Rl.Is (.string s), Rl.Is (.int .i64 (k : Int)), Rl.Is (.string (s.extract 0 k)), Rl.Is (.int .i64 r1), Rl.Is (.int .i64 la), Rl.Is (dfaA D.cls D.width (.slice an n cn) vl), Rl.Is (dfaA D.cls D.width (.slice an n cn) vl), Rl.Is (.string s), Rl.Is (.int .i64 (k : Int)), Rl.Is (.string (s.extract 0 k)), Rl.Is (.int .i64 r2), Rl.Is (.int .i64 la), Rl.Is (.bool false)]) (fun w1 => Below wr.heap.size wr w1) (by kernel_rfl) (by kernel_rfl) (by kernel_rfl) (by kernel_rfl) ?mono (Below.refl _ _).drew [] (by kernel_rfl) ?guards ?step ?fin
        case mono =>
          refine Rl.typ_mono ?_
          simp only [List.forall_mem_cons]
          repeat' (first | exact (fun v w w' h _ => h) | exact (fun v w w' h hb => RdB.below h hb hb.size) | exact (fun v w w' h hb => RdDfaV.below h hb) | (intro p hp; cases hp; done) | refine And.intro ?_ ?_)
        case guards => intro g hg; cases hg
        case step =>
          refine ⟨?_, ?_, ?_, ?_, ?_, ?_, ?_, ?_, ?_, ?_, ?_, ?_, ?_, ?_, ?_, trivial⟩
          · intro ρ w1 hF hW
            have e1 : ρ 5 = .pointer (some ⟨XB, 0, none⟩) := hF 5 (by decide)
            have HW := hidden hW
            exact does_load_dfaT rfl e1 (HY.out _ HW.out) ⟨rfl, HW.out, Below.refl _ _⟩
          · intro ρ w1 hF hW
            have e1 : ρ 5 = .pointer (some ⟨XB, 0, none⟩) := hF 5 (by decide)
            have HW := hidden hW
            exact does_load_dfaT rfl e1 (HY.out _ HW.out) ⟨rfl, HW.out, Below.refl _ _⟩
          · intro ρ w1 hF hW
            have e1 : ρ 1 = .string s := hF 1 (by decide)
            have HW := hidden hW
            clear hF hW
            unfold Rl.Does
            go_simp
            first
              | exact ⟨rfl, HW.out, Below.refl _ _⟩
              | (simp; exact ⟨rfl, HW.out, Below.refl _ _⟩)
          · intro ρ w1 hF hW
            have e6 : ρ 6 = .int .i64 (k : Int) := hF 6 (by decide)
            have HW := hidden hW
            clear hF hW
            unfold Rl.Does
            go_simp
            first
              | exact ⟨rfl, HW.out, Below.refl _ _⟩
              | (simp; exact ⟨rfl, HW.out, Below.refl _ _⟩)
          · intro ρ w1 hF hW
            have e45 : ρ 45 = .string s := hF 45 (by decide)
            have e46 : ρ 46 = .int .i64 (k : Int) := hF 46 (by decide)
            have HW := hidden hW
            clear hF hW
            unfold Rl.Does
            go_simp
            first
              | exact ⟨rfl, HW.out, Below.refl _ _⟩
              | (simp; exact ⟨rfl, HW.out, Below.refl _ _⟩)
          · intro ρ w1 hF hW
            have e44 : ρ 44 = dfaA X.cls X.width (.slice an2 m cn2) (.slice al2 X.label.length cl2) := hF 44 (by decide)
            have e47 : ρ 47 = .string (s.extract 0 k) := hF 47 (by decide)
            have HW := hidden hW
            clear hF hW
            unfold Rl.Does
            go_simp
            refine (HR1.out _ HW.out).mono ?_
            rintro e w3 ⟨rfl, hb⟩
            exact ⟨_, rfl, rfl, below_after HW.out hb, hb⟩
          · intro ρ w1 hF hW
            have e43 : ρ 43 = dfaA X.cls X.width (.slice an2 m cn2) (.slice al2 X.label.length cl2) := hF 43 (by decide)
            have e48 : ρ 48 = .int .i64 r1 := hF 48 (by decide)
            have HW := hidden hW
            clear hF hW
            unfold Rl.Does
            go_simp
            refine (HL1.out _ HW.out).mono ?_
            rintro e w3 ⟨rfl, hb⟩
            exact ⟨_, rfl, rfl, below_after HW.out hb, hb⟩
          · intro ρ w1 hF hW
            have e1 : ρ 2 = .pointer (some ⟨B, 0, none⟩) := hF 2 (by decide)
            have HW := hidden hW
            exact does_load_dfaT rfl e1 (HX.out _ HW.out) ⟨rfl, HW.out, Below.refl _ _⟩
          · intro ρ w1 hF hW
            have e1 : ρ 2 = .pointer (some ⟨B, 0, none⟩) := hF 2 (by decide)
            have HW := hidden hW
            exact does_load_dfaT rfl e1 (HX.out _ HW.out) ⟨rfl, HW.out, Below.refl _ _⟩
          · intro ρ w1 hF hW
            have e1 : ρ 1 = .string s := hF 1 (by decide)
            have HW := hidden hW
            clear hF hW
            unfold Rl.Does
            go_simp
            first
              | exact ⟨rfl, HW.out, Below.refl _ _⟩
              | (simp; exact ⟨rfl, HW.out, Below.refl _ _⟩)
          · intro ρ w1 hF hW
            have e6 : ρ 6 = .int .i64 (k : Int) := hF 6 (by decide)
            have HW := hidden hW
            clear hF hW
            unfold Rl.Does
            go_simp
            first
              | exact ⟨rfl, HW.out, Below.refl _ _⟩
              | (simp; exact ⟨rfl, HW.out, Below.refl _ _⟩)
          · intro ρ w1 hF hW
            have e52 : ρ 52 = .string s := hF 52 (by decide)
            have e53 : ρ 53 = .int .i64 (k : Int) := hF 53 (by decide)
            have HW := hidden hW
            clear hF hW
            unfold Rl.Does
            go_simp
            first
              | exact ⟨rfl, HW.out, Below.refl _ _⟩
              | (simp; exact ⟨rfl, HW.out, Below.refl _ _⟩)
          · intro ρ w1 hF hW
            have e51 : ρ 51 = dfaA D.cls D.width (.slice an n cn) vl := hF 51 (by decide)
            have e54 : ρ 54 = .string (s.extract 0 k) := hF 54 (by decide)
            have HW := hidden hW
            clear hF hW
            unfold Rl.Does
            go_simp
            refine (HR2.out _ HW.out).mono ?_
            rintro e w3 ⟨rfl, hb⟩
            exact ⟨_, rfl, rfl, below_after HW.out hb, hb⟩
          · intro ρ w1 hF hW
            have e50 : ρ 50 = dfaA D.cls D.width (.slice an n cn) vl := hF 50 (by decide)
            have e55 : ρ 55 = .int .i64 r2 := hF 55 (by decide)
            have HW := hidden hW
            clear hF hW
            unfold Rl.Does
            go_simp
            refine (HL2.out _ HW.out).mono ?_
            rintro e w3 ⟨rfl, hb⟩
            exact ⟨_, rfl, rfl, below_after HW.out hb, hb⟩
          · intro ρ w1 hF hW
            have e49 : ρ 49 = .int .i64 la := hF 49 (by decide)
            have e56 : ρ 56 = .int .i64 la := hF 56 (by decide)
            have HW := hidden hW
            clear hF hW
            unfold Rl.Does
            go_simp
            first
              | exact ⟨rfl, HW.out, Below.refl _ _⟩
              | (simp; exact ⟨rfl, HW.out, Below.refl _ _⟩)
        case fin =>
          intro a1 w7 hst hv hW
          have h57 : a1.tmps.getD 57 undef = .bool false := hv 14 57 (by kernel_rfl)
          have hd := hst.defers
          have hz := hst.lit [43, 44, 45, 46, 47, 48, 49, 50, 51, 52, 53, 54, 55, 56, 57] (by kernel_rfl)
          have HB7 := hidden (below_then HBR.out HBR.out.size hW)
          clear hst hv hW hsl HR1 HR2 HL1 HL2
          obtain ⟨tm, df⟩ := a1
          simp only at hz hd h57
          simp only [List.foldl_cons, List.foldl_nil, List.setIfInBounds_toArray, List.set_cons_zero, List.set_cons_succ] at hz
          rw [h57] at hz
          generalize tm.getD 43 undef = v43 at hz
          generalize tm.getD 44 undef = v44 at hz
          generalize tm.getD 45 undef = v45 at hz
          generalize tm.getD 46 undef = v46 at hz
          generalize tm.getD 47 undef = v47 at hz
          generalize tm.getD 48 undef = v48 at hz
          generalize tm.getD 49 undef = v49 at hz
          generalize tm.getD 50 undef = v50 at hz
          generalize tm.getD 51 undef = v51 at hz
          generalize tm.getD 52 undef = v52 at hz
          generalize tm.getD 53 undef = v53 at hz
          generalize tm.getD 54 undef = v54 at hz
          generalize tm.getD 55 undef = v55 at hz
          generalize tm.getD 56 undef = v56 at hz
          clear h57
          subst hz hd
          go_wp2_with fail
          go_roundw
          case rel => exact ⟨k + 1, by omega, by go_num, HB7.out⟩
          case measure => simp [Go.RowKit.intOf]; omega
      have q0 : decide ((k : Int) ≤ (s.size : Int)) = false := decide_eq_false (by omega)
      have q0' : decide (k ≤ s.size) = false := decide_eq_false hlt
      have HRE := hidden (fun W (hb : Below wr.heap.size wr W) => lreached_calls (HRX.out W hb) (by rw [← HM.out]; exact hml))
      have HAL := hidden (fun W (hb : Below wr.heap.size wr W) => lalive_calls (HRX.out W hb) (by rw [← HM.out]; exact hml))
      go_wp2_with fail
      refine Rl.wp_region_steps (R := fun w1 w2 => Below w1.heap.size w1 w2) (Rl.typ [Rl.Is (dfaA X.cls X.width (.slice an2 m cn2) (.slice al2 X.label.length cl2)), RdBoolV (reachedL X), Rl.Is (dfaA X.cls X.width (.slice an2 m cn2) (.slice al2 X.label.length cl2)), RdBoolV (aliveL X), RdBoolV (reachedL X), RdBoolV (aliveL X)]) (fun w1 => Below wr.heap.size wr w1) (by kernel_rfl) (by kernel_rfl) (by kernel_rfl) (by kernel_rfl) ?mono (Below.refl _ _).drew [] (by kernel_rfl) ?guards ?step ?fin
      case mono =>
        refine Rl.typ_mono ?_
        simp only [List.forall_mem_cons]
        repeat' (first | exact (fun v w w' h _ => h) | exact (fun v w w' h hb => RdB.below h hb hb.size) | exact (fun v w w' h hb => RdDfaV.below h hb) | (intro p hp; cases hp; done) | refine And.intro ?_ ?_)
      case guards => intro g hg; cases hg
      case step =>
        refine ⟨?_, ?_, ?_, ?_, ?_, ?_, trivial⟩
        · intro ρ w1 hF hW
          have e1 : ρ 5 = .pointer (some ⟨XB, 0, none⟩) := hF 5 (by decide)
          have HW := hidden hW
          exact does_load_dfaT rfl e1 (HY.out _ HW.out) ⟨rfl, HW.out, Below.refl _ _⟩
        · intro ρ w1 hF hW
          have e58 : ρ 58 = dfaA X.cls X.width (.slice an2 m cn2) (.slice al2 X.label.length cl2) := hF 58 (by decide)
          have HW := hidden hW
          clear hF hW
          unfold Rl.Does
          go_simp
          refine (HRE.out _ HW.out).mono ?_
          rintro e w3 ⟨v, rfl, hr, hb, _⟩
          exact ⟨_, rfl, hr, below_after HW.out hb, hb⟩
        · intro ρ w1 hF hW
          have e1 : ρ 5 = .pointer (some ⟨XB, 0, none⟩) := hF 5 (by decide)
          have HW := hidden hW
          exact does_load_dfaT rfl e1 (HY.out _ HW.out) ⟨rfl, HW.out, Below.refl _ _⟩
        · intro ρ w1 hF hW
          have e60 : ρ 60 = dfaA X.cls X.width (.slice an2 m cn2) (.slice al2 X.label.length cl2) := hF 60 (by decide)
          have HW := hidden hW
          clear hF hW
          unfold Rl.Does
          go_simp
          refine (HAL.out _ HW.out).mono ?_
          rintro e w3 ⟨v, rfl, hr, hb, _⟩
          exact ⟨_, rfl, hr, below_after HW.out hb, hb⟩
        · intro ρ w1 hF hW
          have f1 : RdB w1.heap.size w1 (ρ 59) (reachedL X) := hF 59 (by decide)
          have HW := hidden hW
          have HE := hidden f1
          clear hF hW f1
          unfold Rl.Does
          go_simp
          exact ⟨HE.out, HW.out, Below.refl _ _⟩
        · intro ρ w1 hF hW
          have f1 : RdB w1.heap.size w1 (ρ 61) (aliveL X) := hF 61 (by decide)
          have HW := hidden hW
          have HE := hidden f1
          clear hF hW f1
          unfold Rl.Does
          go_simp
          exact ⟨HE.out, HW.out, Below.refl _ _⟩
      case fin =>
        intro a1 w7 hst hv hW
        have h7 : RdB w7.heap.size w7 (a1.tmps.getD 7 undef) (reachedL X) := hv 4 7 (by kernel_rfl)
        have h8 : RdB w7.heap.size w7 (a1.tmps.getD 8 undef) (aliveL X) := hv 5 8 (by kernel_rfl)
        have hd := hst.defers
        have hz := hst.lit [58, 59, 60, 61, 7, 8] (by kernel_rfl)
        have HB7 := hidden (below_then HBR.out HBR.out.size hW)
        have e7 := (HY.out w7 hW).next
        have HYB := hidden (show ∀ W, Below w7.heap.size w7 W → Below wr.heap.size wr W from fun W hb => below_then hW hW.size hb)
        clear hst hv hW HRE HAL
        obtain ⟨tm, df⟩ := a1
        simp only at hz hd h7 h8
        simp only [List.foldl_cons, List.foldl_nil, List.setIfInBounds_toArray, List.set_cons_zero, List.set_cons_succ] at hz
        obtain ⟨ra, rc, hv7⟩ := h7.form
        obtain ⟨aa, ac, hv8⟩ := h8.form
        rw [hv7] at h7 hz
        rw [hv8] at h8 hz
        have hrl : (reachedL X).length = m := by rw [reached_len HXR.out, HM.out]
        have hal2 : (aliveL X).length = m := by rw [alive_len HXR.out, HM.out]
        rw [hrl] at h7 hz
        rw [hal2] at h8 hz
        have HRV := hidden h7
        have HAV := hidden h8
        have HLEN := hidden (And.intro hrl hal2)
        generalize tm.getD 58 undef = v58 at hz
        generalize tm.getD 59 undef = v59 at hz
        generalize tm.getD 60 undef = v60 at hz
        generalize tm.getD 61 undef = v61 at hz
        clear h7 h8 hv7 hv8 hrl hal2
        subst hz hd
        go_wp2
        go_loopw [9] (fun jv W => ∃ j : Nat, 1 ≤ j ∧ (j = 1 ∨ j ≤ m) ∧ jv = .int .i64 j ∧ w7 = W) (fun jv _ => m - (Go.RowKit.intOf jv).toNat)
        case atStart => exact ⟨1, by omega, .inl rfl, rfl, rfl⟩
        case round =>
        obtain ⟨j, hj1, hj2, rfl, rfl⟩ := hrel
        by_cases hjm : j < m
        · have q8 : decide ((j : Int) < (m : Int)) = true := decide_eq_true (by omega)
          have q8' : decide (j < m) = true := decide_eq_true hjm
          have hon := HALL.out j hjm
          rcases hon with h0 | ⟨h1, h2⟩
          · omega
          have o1 := on_cell ((reached_iff HXR.out j).2 h1)
          have o2 := on_cell ((alive_iff HXR.out (by rw [← HM.out]; exact hjm)).2 h2)
          obtain ⟨b1, f1, rfl, _, c1⟩ := HRV.out.at (Below.refl _ _) j (by rw [HLEN.out.1]; exact hjm)
          obtain ⟨b2, f2, rfl, _, c2⟩ := HAV.out.at (Below.refl _ _) j (by rw [HLEN.out.2]; exact hjm)
          rw [o1] at c1
          rw [o2] at c2
          clear h1 h2 o1 o2 hj2
          go_wp2
          exact ⟨⟨j + 1, by omega, .inr (by omega), by go_num, trivial⟩, by simp [Go.RowKit.intOf]; omega⟩
        · have q8 : decide ((j : Int) < (m : Int)) = false := decide_eq_false (by omega)
          have q8' : decide (j < m) = false := decide_eq_false hjm
          have HX := hidden (fun W (hb : Below w7.heap.size w7 W) => HX.out W (HYB.out W hb))
          have HY := hidden (fun W (hb : Below w7.heap.size w7 W) => HY.out W (HYB.out W hb))
          have HRX := hidden (fun W (hb : Below w7.heap.size w7 W) => HRX.out W (HYB.out W hb))
          have HRR := hidden (fun W (hb : Below w7.heap.size w7 W) => (show Calls Tryz.prog 23 #[dfaA X.cls X.width (.slice an2 m cn2) (.slice al2 X.label.length cl2)] W fun e w' => e = .returned (.bool true) ∧ Below W.heap.size W w' by have h := rright14_calls (HRX.out W hb); rw [HXR.out] at h; exact h))
          have HLT := hidden (fun W (hb : Below w7.heap.size w7 W) => (show Calls Tryz.prog 15 #[dfaA X.cls X.width (.slice an2 m cn2) (.slice al2 X.label.length cl2)] W (RetD W X) by have h := ltrim_calls (HRX.out W hb) (by rw [← HM.out]; exact hml); rw [HAG.out] at h; exact h))
          clear hj2 e7
          go_wp2_with fail
          refine Rl.wp_region_steps (R := fun w1 w2 => Below w1.heap.size w1 w2) (Rl.typ [Rl.Is (dfaA X.cls X.width (.slice an2 m cn2) (.slice al2 X.label.length cl2)), Rl.Is (.bool true), Rl.Is (.bool true), Rl.Is (dfaA X.cls X.width (.slice an2 m cn2) (.slice al2 X.label.length cl2)), RdDfaV X, Rl.Is (dfaA X.cls X.width (.slice an2 m cn2) (.slice al2 X.label.length cl2)), Rl.Is (.bool true), Rl.Is (.bool true), Rl.Is (.bool true), Rl.Is (.bool true), Rl.Is (.bool true), Rl.Is (.bool true)]) (fun w1 => Below w7.heap.size w7 w1) (by kernel_rfl) (by kernel_rfl) (by kernel_rfl) (by kernel_rfl) ?mono (Below.refl _ _).drew [2, 8] (by kernel_rfl) ?guards ?step ?fin
          case mono =>
            refine Rl.typ_mono ?_
            simp only [List.forall_mem_cons]
            repeat' (first | exact (fun v w w' h _ => h) | exact (fun v w w' h hb => RdB.below h hb hb.size) | exact (fun v w w' h hb => RdDfaV.below h hb) | (intro p hp; cases hp; done) | refine And.intro ?_ ?_)
          case guards =>
            intro g hg v w h
            simp at hg
            rcases hg with rfl | rfl <;> exact h
          case step =>
            refine ⟨?_, ?_, ?_, ?_, ?_, ?_, ?_, ?_, ?_, ?_, ?_, ?_, trivial⟩
            · intro ρ w1 hF hW
              have e1 : ρ 5 = .pointer (some ⟨XB, 0, none⟩) := hF 5 (by decide)
              have HW := hidden hW
              exact does_load_dfaT rfl e1 (HY.out _ HW.out) ⟨rfl, HW.out, Below.refl _ _⟩
            · intro ρ w1 hF hW
              have e94 : ρ 94 = dfaA X.cls X.width (.slice an2 m cn2) (.slice al2 X.label.length cl2) := hF 94 (by decide)
              have HW := hidden hW
              clear hF hW
              unfold Rl.Does
              go_simp
              refine (HRR.out _ HW.out).mono ?_
              rintro e w3 ⟨rfl, hb⟩
              exact ⟨_, rfl, rfl, below_after HW.out hb, hb⟩
            · intro ρ w1 hF hW
              have e95 : ρ 95 = .bool true := hF 95 (by decide)
              have HW := hidden hW
              clear hF hW
              unfold Rl.Does
              go_simp
              first
                | exact ⟨rfl, HW.out, Below.refl _ _⟩
                | (simp; exact ⟨rfl, HW.out, Below.refl _ _⟩)
            · intro ρ w1 hF hW
              have e1 : ρ 5 = .pointer (some ⟨XB, 0, none⟩) := hF 5 (by decide)
              have HW := hidden hW
              exact does_load_dfaT rfl e1 (HY.out _ HW.out) ⟨rfl, HW.out, Below.refl _ _⟩
            · intro ρ w1 hF hW
              have e97 : ρ 97 = dfaA X.cls X.width (.slice an2 m cn2) (.slice al2 X.label.length cl2) := hF 97 (by decide)
              have HW := hidden hW
              clear hF hW
              unfold Rl.Does
              go_simp
              refine (HLT.out _ HW.out).mono ?_
              rintro e w3 ⟨vn', vl', rfl, hr, hb⟩
              exact ⟨_, rfl, ⟨_, _, rfl, hr⟩, below_after HW.out hb, hb⟩
            · intro ρ w1 hF hW
              have e1 : ρ 5 = .pointer (some ⟨XB, 0, none⟩) := hF 5 (by decide)
              have HW := hidden hW
              exact does_load_dfaT rfl e1 (HY.out _ HW.out) ⟨rfl, HW.out, Below.refl _ _⟩
            · intro ρ w1 hF hW
              obtain ⟨un1, ul1, e1, r1⟩ : RdDfaV X (ρ 98) w1 := hF 98 (by decide)
              have e99 : ρ 99 = dfaA X.cls X.width (.slice an2 m cn2) (.slice al2 X.label.length cl2) := hF 99 (by decide)
              have HS := hidden (rsame14_calls r1 (HRX.out _ hW))
              have HW := hidden hW
              clear hF hW r1
              unfold Rl.Does
              go_simp
              refine HS.out.mono ?_
              rintro e w3 ⟨rfl, hb⟩
              exact ⟨_, rfl, rfl, below_after HW.out hb, hb⟩
            · intro ρ w1 hF hW
              have e96 : ρ 96 = .bool true := hF 96 (by decide)
              have e100 : ρ 100 = .bool true := hF 100 (by decide)
              have HW := hidden hW
              clear hF hW
              unfold Rl.Does
              go_simp
              first
                | exact ⟨rfl, HW.out, Below.refl _ _⟩
                | (simp; exact ⟨rfl, HW.out, Below.refl _ _⟩)
            · intro ρ w1 hF hW
              have e101 : ρ 101 = .bool true := hF 101 (by decide)
              have HW := hidden hW
              clear hF hW
              unfold Rl.Does
              go_simp
              first
                | exact ⟨rfl, HW.out, Below.refl _ _⟩
                | (simp; exact ⟨rfl, HW.out, Below.refl _ _⟩)
            · intro ρ w1 hF hW
              have HW := hidden hW
              clear hF hW
              unfold Rl.Does
              go_simp
              refine (knows15_calls _).mono ?_
              rintro e w3 ⟨rfl, hb⟩
              exact ⟨_, rfl, rfl, below_after HW.out hb, hb⟩
            · intro ρ w1 hF hW
              have e102 : ρ 102 = .bool true := hF 102 (by decide)
              have e103 : ρ 103 = .bool true := hF 103 (by decide)
              have HW := hidden hW
              clear hF hW
              unfold Rl.Does
              go_simp
              first
                | exact ⟨rfl, HW.out, Below.refl _ _⟩
                | (simp; exact ⟨rfl, HW.out, Below.refl _ _⟩)
            · intro ρ w1 hF hW
              have e104 : ρ 104 = .bool true := hF 104 (by decide)
              have HW := hidden hW
              clear hF hW
              unfold Rl.Does
              go_simp
              first
                | exact ⟨rfl, HW.out, Below.refl _ _⟩
                | (simp; exact ⟨rfl, HW.out, Below.refl _ _⟩)
          case fin =>
            intro a1 w11 hst hv hW
            have h8 : a1.tmps.getD 4 undef = .bool true := hv 11 4 (by kernel_rfl)
            have hd := hst.defers
            have HW := hidden hW
            clear hv hW
            (try go_wp2)
            refine bodyPost_ret (results_tmp rfl _ _ _) hd ?_
            rw [h8]
            have hz := below_then HB6.out HB6.out.size HB7.out
            exact ⟨rfl, below_then (HBE.out ▸ hz) (HBE.out ▸ hz).size HW.out⟩
namespace lawLiveSame
open Go.ChangeShapes Go.WideShapes Go.ChangeAt Go.RowKit Go.Deep
open Go.ChangeMaps (open_string shut_string)

set_option maxRecDepth 100000 in
theorem lifted (os : Os) (started : os.Started) (H : Type) (enc : TypeId × Value → H) :
    ReturnsInHanded {} Tryz.checked os 5 .any (Rows.liveSameSpec.pre6 enc Tryz.prog Tryz.f5 Rows.liveSameRow.domain false) (Rows.liveSameSpec.post enc Tryz.prog Tryz.f5 false true false false) := by
  refine returnsInHanded_of_change (C := Tryz.checked) own started (by kernel_rfl) Tryz.func5
    (ChangeSpec.witness6 (enc := enc) (C := Tryz.checked) false ⟨#[], #[dfaA (fun _ => 0) 0 (.slice none 0 0) (.slice none 0 0), .string ⟨#[]⟩], []⟩ 8 (by kernel_rfl) (by kernel_rfl) (by kernel_rfl) (by kernel_rfl)) ?_
  intro W base args ds gs before hval0 hW hcnd _
  have hval : ∀ (j : Nat) t v, Tryz.f5.params[j]? = some t → args[j]? = some v → Value.okWide Tryz.prog W .any base t v := hval0
  have hW' : DataW.Whole enc Tryz.prog Tryz.f5.params.toList Rows.liveSameSpec.vars false W args.toList ds gs before := hW
  obtain ⟨p, q, hA0, hV, rfl, hfz, hnd⟩ := hW
  have hA : DataW.TrodAll enc Tryz.prog W 0 (fun _ => true) true Tryz.f5.params.toList args.toList ds p := hA0
  have hlt : ∀ x ∈ p, x.block < W.heap.size := fun x hx => hW'.lt x (List.mem_append_left _ hx)
  rw [Tryz.params5] at hA hval
  obtain ⟨v0, vs0, d0, ds0, p0, q0, hargs, hd0, hp0, h0, r0⟩ := trodAll_cons hA
  obtain ⟨v1, vs1, d1, ds1, p1, q1, rfl, hd1, hp1, h1, r1⟩ := trodAll_cons r0
  obtain ⟨rfl, _, _⟩ := trodAll_nil r1
  obtain rfl : args = #[v0, v1] := by cases args; simp_all
  obtain ⟨s0a, s0b, z0, rfl, w0⟩ := open_dfa (hval 0 26 v0 rfl rfl) h0
  obtain ⟨a1, rfl, _, _, w1⟩ := open_string Tryz.underlying9 (hval 1 9 v1 rfl rfl) h1
  refine (walkLiveSame s0a s0b z0 a1 W w0 w1).mono fun e W' ⟨he, hb⟩ => ⟨_, he, ends_true hW' rfl (by kernel_rfl) ?_ (by kernel_rfl) hb⟩
  intro xs hxs
  match xs, hxs with
  | [_, _], _ => rfl

theorem proved : Rows.LiveSameSaid :=
  OpenClaim.holds_of_wide 5 Tryz.f5 rfl rfl rfl rfl rfl rfl rfl ⟨rfl, rfl, rfl, rfl, rfl⟩ rfl rfl rfl rfl rfl (by kernel_rfl) Tryz.func5 (by kernel_rfl)
    (of_decide_eq_true (by kernel_rfl)) (by unfold Func.isWrapper; first | (rw [if_pos (by decide +kernel)]; kernel_rfl) | (rw [if_neg (by decide +kernel)]; exact ⟨rfl, rfl⟩))
    (fun os started H enc _ => lifted os started H enc)

end lawLiveSame
end Go.Proofs.YtnjjbaodfjmiaaaGreat
