/- 'DfaReads' answers true for every list of tokens and every word: the machine of the tokens' net leads a word to a state whose label is the first token that says it. Conditions: the three listed tables (of math/bits, and of strconv's powers of ten) hold what their initialisers lay (listed and tied). -/
import Derived.Test.YtmpjjnjggihojaaGreatDoorDf35
import Derived.Test.YtmpjjnjggihojaaGreatDoorDf37
import Derived.Test.YtmpjjnjggihojaaGreatDoorDf38
import Derived.Test.YtmpjjnjggihojaaGreatDoorDf40
namespace Go.Proofs.YtmpjjnjggihojaaGreatDoor
open Go.RowKit Go.Lib Go.Joins Go.Maps

/-- what is found when the tokens are asked from the last to the first, after j of them -/
noncomputable def downM (T : List (List Stp)) (s : ByteArray) (m : Nat) : Nat → Int
  | 0 => -1
  | j + 1 => if isT T s (m - 1 - j) = true then ((m - 1 - j : Nat) : Int) else downM T s m j
theorem downM_is (T : List (List Stp)) (s : ByteArray) (m : Nat) : ∀ j, j ≤ m → (downM T s m j = -1 ∧ ∀ t, m - j ≤ t → t < m → isT T s t = false) ∨ ∃ t, m - j ≤ t ∧ t < m ∧ downM T s m j = (t : Int) ∧ isT T s t = true ∧ ∀ k, m - j ≤ k → k < t → isT T s k = false
  | 0, _ => .inl ⟨rfl, fun t h1 h2 => by omega⟩
  | j + 1, hj => by
    have ih := downM_is T s m j (by omega)
    rw [downM]
    cases hi : isT T s (m - 1 - j) with
    | true =>
      rw [if_pos rfl]
      exact .inr ⟨m - 1 - j, by omega, by omega, rfl, hi, fun k h1 h2 => by omega⟩
    | false =>
      rw [if_neg (by simp)]
      have hs : ∀ k, m - (j + 1) ≤ k → m - j ≤ k ∨ k = m - 1 - j := fun k h => by omega
      rcases ih with ⟨h1, h2⟩ | ⟨t, h1, h2, h3, h4, h5⟩
      · refine .inl ⟨h1, fun t h3 h4 => ?_⟩
        rcases hs t h3 with h | rfl
        · exact h2 t h h4
        · exact hi
      · refine .inr ⟨t, by omega, h2, h3, h4, fun k h6 h7 => ?_⟩
        rcases hs k h6 with h | rfl
        · exact h5 k h h7
        · exact hi
theorem downM_first (T : List (List Stp)) (s : ByteArray) (m : Nat) : downM T s m m = firstM T s m := by
  rcases downM_is T s m m (Nat.le_refl _) with ⟨h1, h2⟩ | ⟨t, h1, h2, h3, h4, h5⟩
  · rcases firstM_is T s m with ⟨k1, _⟩ | ⟨u, k1, _, k3, _⟩
    · rw [h1, k1]
    · rw [h2 u (by omega) k1] at k3; cases k3
  · rcases firstM_is T s m with ⟨_, k2⟩ | ⟨u, k1, k2, k3, k4⟩
    · rw [k2 t h2] at h4; cases h4
    · rcases Nat.lt_trichotomy t u with h | h | h
      · rw [k4 t h] at h4; cases h4
      · subst h; rw [h3, k2]
      · rw [h5 u (by omega) h] at k3; cases k3
theorem runS_app (D : DfaM) : ∀ (W V : List Nat) (x : Int), runS D x (W ++ V) = runS D (runS D x W) V
  | [], _, _ => rfl
  | c :: r, V, x => by
    rw [List.cons_append, runS, runS]
    split
    · rename_i h
      rw [runS_stop D h]
    · exact runS_app D r V _
/-- a word that leads nowhere leads nowhere with more behind it -/
theorem runD_app {N : NetM} {n : Nat} (hn : (machS N n).1.length = n) {W : List Nat} (hW : ∀ b ∈ W, b < 256) (h : W ≠ []) (V : List Nat) (hneg : runD (machM N n) W < 0) : runD (machM N n) (W ++ V) = -1 := by
  have h1 : runD (machM N n) W = -1 := by
    rcases run_stands hn hW h with ⟨_, h2⟩ | ⟨_, k, h2, _⟩ <;> omega
  have hr := mach_right hn
  unfold runD at h1 ⊢
  rw [if_pos hr] at h1 ⊢
  rw [runS_app, h1, runS_stop _ (by omega)]
set_option maxHeartbeats 16000000 in
set_option maxRecDepth 100000 in
theorem walkDfReads (a0 : Option Addr) (len0 cap0 : Nat) (T : List (List Stp)) (s : ByteArray) (w : World) (h : Toks (fun b => b < w.heap.size) w (.slice a0 len0 cap0) T ∧ ∀ i, ∀ s ∈ T.getD i [], s.fit) (hs : s.size ≤ maxLen) (ht : Pow w) :
    Calls Tryz.prog 5 #[.slice a0 len0 cap0, .string s] w fun e w' => e = .returned (.bool true) ∧ Below w.heap.size w w' := by
  obtain ⟨hT, hfit⟩ := h
  have hwd : ∀ i, ∀ s ∈ T.getD i [], s.wide := fun i s hs => fit_wide (hfit i s hs)
  have HPW := hidden (fun W (hb : Below w.heap.size w W) => (show Pow W from tabBelow_of_tabIs ht W hb))
  have HV := hidden hT
  have HF := hidden (Few_calls hT)
  have hal := run_zero_dfa
  by_cases hfew : fewB T = true
  case neg =>
    have hfew' : fewB T = false := by simpa using hfew
    rw [hfew'] at HF
    clear hT hfit hwd ht hfew hfew'
    go_enter Tryz.func5, Tryz.ntmps5
    go_wp2_with fail
    refine HF.out.mono ?_
    rintro e w1 ⟨rfl, rfl⟩
    go_wp2_with fail
    refine (knows14_calls _ (HPW.out _ (Below.refl _ _))).mono ?_
    rintro e w4 ⟨rfl, hb4⟩
    go_wp2
    go_ret
    exact ⟨rfl, hb4⟩
  rw [hfew] at HF
  have HFT := hidden (few_yes hfew hwd)
  have HFS := hidden (few_sets hfew hwd)
  have HRT := hidden (fuseM_right HFT.out)
  have HWD := hidden (fuseM_wide hwd)
  have HTW := hidden hwd
  clear hT hfit hwd ht hfew
  by_cases p1 : 24 < s.size
  case pos =>
    have q2 : decide ((24 : Int) < (s.size : Int)) = true := decide_eq_true (by omega)
    have q3 : decide (24 < s.size) = true := decide_eq_true p1
    clear p1
    go_enter Tryz.func5, Tryz.ntmps5
    go_wp2_with fail
    refine HF.out.mono ?_
    rintro e w1 ⟨rfl, rfl⟩
    go_wp2_with fail
    refine (knows14_calls _ (HPW.out _ (Below.refl _ _))).mono ?_
    rintro e w4 ⟨rfl, hb4⟩
    go_wp2
    go_ret
    exact ⟨rfl, hb4⟩
  have q2 : decide ((24 : Int) < (s.size : Int)) = false := decide_eq_false (by omega)
  have q3 : decide (24 < s.size) = false := decide_eq_false p1
  by_cases p3 : s.size = 0
  case pos =>
    obtain rfl : s = ⟨#[]⟩ := by
      have : s.data.size = 0 := p3
      cases s
      simp_all
    clear p1 p3
    go_enter Tryz.func5, Tryz.ntmps5
    go_wp2_with fail
    refine HF.out.mono ?_
    rintro e w1 ⟨rfl, rfl⟩
    go_wp2_with fail
    refine (knows14_calls _ (HPW.out _ (Below.refl _ _))).mono ?_
    rintro e w4 ⟨rfl, hb4⟩
    go_wp2
    go_ret
    exact ⟨rfl, hb4⟩
  have hpos : 0 < s.size := by omega
  have q7 : ¬ s.toList = [] := by
    rw [ByteArray.toList_eq]
    intro e
    have h : s.data.toList.length = 0 := by rw [e]; rfl
    exact absurd (show s.size = 0 from (Array.length_toList (xs := s.data)).symm.trans h) (by omega)
  have q6 : s.toList.isEmpty = false := by simpa using q7
  have HLEN0 := hidden (show len0 = T.length from by obtain ⟨_, _, e, _⟩ := HV.out; simp only [Value.slice.injEq] at e; exact e.2.1)
  have HFI := hidden (first_tells HFT.out s hpos)
  have HM12 := hidden HFT.out.len
  have HSAYS := hidden (fun (W : World) {C : Nat → Prop} {v : Value} (t : Nat) (hx : SlX C W v (T.getD t [])) (hC : ∀ b, C b → b < W.heap.size) => (show Calls Tryz.prog 23 #[v, .string s] W fun e w' => e = .returned (.bool (isT T s t)) ∧ Below W.heap.size W w' from rsays_calls hx hC s (by omega) (HTW.out t)))
  have HFUSE := hidden (rFuse_calls HV.out (fun b hb => hb) HFT.out)
  have hW : ∀ c ∈ byN s, c < 256 := byN_lt2 s
  have hW0 : byN s ≠ [] := fun e => by
    have := byN_len s
    rw [e] at this
    simp at this
    omega
  obtain ⟨N, hNN⟩ : ∃ N, N = fuseM T := ⟨_, rfl⟩
  rw [← hNN] at HFS HRT HWD HFUSE HFI
  have HE60 := hidden (show errB N 60 = 0 ∨ errB N 60 = 16 by
    unfold errB
    rw [if_neg (by simp [HRT.out]), if_neg (by omega)]
    split
    · exact .inr rfl
    · exact .inl rfl)
  have HMA := hidden (fun (he : errB N 60 = 0) => (show labelD (machB N 60) (runD (machB N 60) (byN s)) = firstM T s T.length ∧ (runD (machB N 60) (byN s) < 0 → runD (machB N 60) (byN (s ++ ⟨#[97]⟩)) = -1) from by
    have h3 := (errB_ok he).2.2.2
    have hd := (mach_done (N := N) (m := (60 : Int).toNat) (by omega)).1
    have hm : machB N 60 = machM N (fndN N (60 : Int).toNat) := by unfold machB; rw [if_pos he]
    rw [hm]
    refine ⟨(label_word hd hW hW0).trans HFI.out, fun hneg => ?_⟩
    rw [byN_app]
    exact runD_app hd hW hW0 _ hneg))
  obtain ⟨m, hm⟩ : ∃ m, m = T.length := ⟨_, rfl⟩
  have HM := hidden hm
  rw [← hm] at HM12 HMA
  rw [← downM_first] at HMA
  have hm12 := HM12.out
  have hml : m = len0 := by rw [HLEN0.out, hm]
  subst hml
  have HDN := hidden (fun j => (show downM T s m (j + 1) = if isT T s (m - 1 - j) = true then ((m - 1 - j : Nat) : Int) else downM T s m j from rfl))
  have HD0 := hidden (show downM T s m 0 = -1 from rfl)
  obtain ⟨si, hsi⟩ : ∃ si, si = isT T s := ⟨_, rfl⟩
  rw [← hsi] at HSAYS HDN
  obtain ⟨dn, hdn⟩ : ∃ dn, dn = downM T s m := ⟨_, rfl⟩
  rw [← hdn] at HDN HD0 HMA
  have hs24 : s.size ≤ 24 := by omega
  clear p1 p3 hpos hNN hm hsi hdn HLEN0 hW hW0 HFI
  go_enter Tryz.func5, Tryz.ntmps5
  go_wp2_with fail
  refine HF.out.mono ?_
  rintro e w1 ⟨rfl, rfl⟩
  go_wp2_with fail
  refine HFUSE.out.mono ?_
  rintro e w2 ⟨vs, vo, vl, vf, v1, rfl, hr2, hb2⟩
  have HB2 := hidden hb2
  have HBU := hidden (Build_calls 60 hr2 HWD.out (by have := HFS.out.1; omega) (HPW.out _ hb2))
  clear hr2 hb2
  unfold netV
  dsimp only
  go_wp2_with fail
  refine HBU.out.mono ?_
  rintro e w4 ⟨vn, vb, rfl, hrd, hb4⟩
  have HB4 := hidden (below_after HB2.out hb4)
  have HRD4 := hidden hrd
  obtain ⟨an, cn, rfl⟩ := hrd.next.form
  obtain ⟨al, cl, rfl⟩ := hrd.label.form
  clear hrd hb4 HBU HFUSE
  rcases HE60.out with he | he
  · have HMB := hidden (HMA.out he)
    rw [he]
    obtain ⟨n, hn⟩ : ∃ x, x = cntB N 60 := ⟨_, rfl⟩
    obtain ⟨D, hD⟩ : ∃ x, x = machB N 60 := ⟨_, rfl⟩
    rw [← hn, ← hD]
    rw [← hD] at HRD4 HMB
    clear he hn hD HE60 HMA
    have hwm : wrap64 ((m : Int) - 1) = (m : Int) - 1 := by unfold wrap64; omega
    dsimp only
    go_wp2_with (first
      | (refine store_dfa rfl (x := .tmp 5) (y := .tmp 28) rfl rfl rfl (DfaAt.new w4 zG 0 (.slice none 0 0) (.slice none 0 0)) rfl rfl ?_; intro w5 hA5 hg5 hs5; have HA5 := hidden hA5; have hb5 := ((Below.refl w4.heap.size w4).alloc (Nat.le_refl _) (.cells (dfaC zG 0 (.slice none 0 0) (.slice none 0 0)) 32)).grown hg5 (by simp) (by intro k hk; simp only [Option.some.injEq] at hk; omega); have HRD5 := hidden (HRD4.out.below hb5 hb5.size); have HB5 := hidden (below_after HB4.out hb5); clear hA5 hg5 hs5 hb5)
      | fail)
    obtain ⟨B5, hB5⟩ : ∃ B, B = w4.heap.size := ⟨_, rfl⟩
    rw [← hB5] at HA5 ⊢
    clear hB5 HRD4 HB4
    have HRUN := hidden (fun (W : World) (hb : Below w5.heap.size w5 W) (u : ByteArray) (hu : u.size ≤ maxLen) => (show Calls Tryz.prog 17 #[dfaA D.cls D.width (.slice an D.next.length cn) (.slice al D.label.length cl), .string u] W fun e w' => e = .returned (.int .i64 (runD D (byN u))) ∧ Below W.heap.size W w' from run14_calls u (HRD5.out.below hb hb.size) hu))
    have HLAB := hidden (fun (W : World) (hb : Below w5.heap.size w5 W) (x : Int) => label_calls x (HRD5.out.below hb hb.size))
    go_loopw [8, 9] (fun f i wr => ∃ j : Nat, j ≤ m ∧ i = .int .i64 ((m : Int) - 1 - j) ∧ f = .int .i64 (dn j) ∧ Below w5.heap.size w5 wr) (fun _ i _ => (Go.RowKit.intOf i + 1).toNat)
    case atStart => exact ⟨0, by omega, by go_num, by rw [HD0.out], Below.refl _ _⟩
    case round =>
      obtain ⟨j, hjm, rfl, rfl, hb⟩ := hrel
      have HB := hidden hb
      have hsz := hb.size
      clear hb
      by_cases hlt : j < m
      · obtain ⟨t, htm⟩ : ∃ t : Nat, t = m - 1 - j := ⟨_, rfl⟩
        have hti : (m : Int) - 1 - (j : Int) = (t : Int) := by omega
        have HTI := hidden (show t + j + 1 = m by omega)
        have HDJ := hidden (HDN.out j)
        rw [← htm] at HDJ
        rw [hti]
        clear hti htm
        have htlt : t < m := by have := HTI.out; omega
        obtain ⟨bt, ot, a', c', hba, hbt, ct, hxt⟩ := HV.out.at (C' := fun b => b < wr.heap.size) (w' := wr) (fun b hb => ⟨Nat.lt_of_lt_of_le hb (Nat.le_trans HB5.out.size hsz), (HB.out.block b (Nat.lt_of_lt_of_le hb HB5.out.size)).trans (HB5.out.block b hb)⟩) t (by rw [← HM.out]; exact htlt)
        subst hba
        have HSY := hidden (HSAYS.out wr t hxt (fun b hb => hb))
        obtain ⟨sb, hsb⟩ : ∃ sb, sb = si t := ⟨_, rfl⟩
        rw [← hsb] at HDJ HSY
        have hwt : wrap64 ((t : Int) - 1) = (t : Int) - 1 := by unfold wrap64; omega
        have d0 : decide ((0 : Int) ≤ (t : Int)) = true := decide_eq_true (by omega)
        have d1 : ((t : Int) < (m : Int)) := by omega
        clear hxt hsb hlt
        go_wp2_with fail
        refine HSY.out.mono ?_
        rintro e w6 ⟨rfl, hb6⟩
        have HB6 := hidden (below_after HB.out hb6)
        clear hb6 ct
        cases sb
        case false =>
          have HF2 := hidden (show dn (j + 1) = dn j from by rw [HDJ.out]; simp)
          go_wp2
          go_roundw
          case rel => exact ⟨j + 1, by have h5 := HTI.out; omega, by have h5 := HTI.out; first | (rw [hwt]; congr 1; omega) | (congr 1; omega), by rw [HF2.out], HB6.out⟩
          case measure => (simp [Go.RowKit.intOf]) <;> omega
        case true =>
          have HF2 := hidden (show dn (j + 1) = (t : Int) from by rw [HDJ.out]; simp)
          go_wp2
          go_roundw
          case rel => exact ⟨j + 1, by have h5 := HTI.out; omega, by have h5 := HTI.out; first | (rw [hwt]; congr 1; omega) | (congr 1; omega), by rw [HF2.out], HB6.out⟩
          case measure => (simp [Go.RowKit.intOf]) <;> omega
      · obtain rfl : j = m := by omega
        have hti : (j : Int) - 1 - (j : Int) = -1 := by omega
        rw [hti]
        have HX := hidden (HA5.out.below HB.out)
        obtain ⟨tx, hto⟩ : ∃ x, x = runD D (byN s) := ⟨_, rfl⟩
        have HML := hidden HMB.out
        rw [← hto] at HML
        have e1 : (dn j == dn j) = true := by simp
        clear hti hlt
        go_wp2_with (refine load_dfa rfl (x := .tmp 5) rfl rfl HX.out ?_)
        refine (HRUN.out _ HB.out s hs).mono ?_
        rintro e w6 ⟨rfl, hb6⟩
        rw [← hto]
        have HB6 := hidden (below_after HB.out hb6)
        have HX6 := hidden (HX.out.below hb6)
        clear hb6 hto
        go_wp2_with (refine load_dfa rfl (x := .tmp 5) rfl rfl HX6.out ?_)
        refine (HLAB.out _ HB6.out tx).mono ?_
        rintro e w7 ⟨rfl, hb7⟩
        rw [HML.out.1]
        have HB7 := hidden (below_after HB6.out hb7)
        have HX7 := hidden (HX6.out.below hb7)
        clear hb7
        by_cases hneg : tx < 0
        · have HR1 := hidden (HML.out.2 hneg)
          have d0 : decide ((0 : Int) ≤ tx) = false := decide_eq_false (by omega)
          clear hneg
          go_wp2_with fail
          refine wpl_any (x := .tmp 5) rfl rfl (run_load_dfa HX7.out) ?_
          simp only [Act.put, List.setIfInBounds_toArray, List.set_cons_zero, List.set_cons_succ]
          go_wp2_with fail
          have hz : (s ++ ⟨#[97]⟩ : ByteArray).size ≤ maxLen := by
            have h1 : (s ++ ⟨#[97]⟩ : ByteArray).size = s.size + 1 := by rw [ByteArray.size_append]; rfl
            rw [h1]
            have h2 : (25 : Nat) ≤ maxLen := by decide
            omega
          obtain ⟨J, hJ⟩ : ∃ J, J = s ++ ⟨#[97]⟩ := ⟨_, rfl⟩
          rw [← hJ] at hz HR1 ⊢
          have HRJ := hidden (HRUN.out _ HB7.out J hz)
          rw [HR1.out] at HRJ
          clear hJ hz
          refine HRJ.out.mono ?_
          rintro e w8 ⟨rfl, hb8⟩
          have HB8 := hidden (below_after HB7.out hb8)
          clear hb8
          go_wp2_with fail
          refine (knows14_calls _ (HPW.out _ (below_after HB5.out HB8.out))).mono ?_
          rintro e w9 ⟨rfl, hb9⟩
          go_wp2
          go_ret
          exact ⟨rfl, below_after (below_after HB5.out HB8.out) hb9⟩
        · have d0 : decide ((0 : Int) ≤ tx) = true := decide_eq_true (by omega)
          clear hneg
          go_wp2_with fail
          refine (knows14_calls _ (HPW.out _ (below_after HB5.out HB7.out))).mono ?_
          rintro e w8 ⟨rfl, hb8⟩
          go_wp2
          go_ret
          exact ⟨rfl, below_after (below_after HB5.out HB7.out) hb8⟩
  · rw [he]
    have hno : machB N 60 = noneD := by unfold machB; rw [if_neg (by omega)]
    rw [hno] at HRD4 ⊢
    obtain ⟨n, hn⟩ : ∃ x, x = cntB N 60 := ⟨_, rfl⟩
    rw [← hn]
    clear he hn hno HE60 HMA
    rw [show noneD.next.length = 0 from rfl]
    dsimp only
    go_wp2_with (first
      | (refine store_dfa rfl (x := .tmp 5) (y := .tmp 28) rfl rfl rfl (DfaAt.new w4 zG 0 (.slice none 0 0) (.slice none 0 0)) rfl rfl ?_; intro w5 hA5 hg5 hs5; have x5 := hA5.next; have hb5 := ((Below.refl w4.heap.size w4).alloc (Nat.le_refl _) (.cells (dfaC zG 0 (.slice none 0 0) (.slice none 0 0)) 32)).grown hg5 (by simp) (by intro k hk; simp only [Option.some.injEq] at hk; omega); have HB5 := hidden (below_after HB4.out hb5); clear hA5 hg5 hs5 hb5)
      | fail)
    refine (knows14_calls _ (HPW.out _ HB5.out)).mono ?_
    rintro e w8 ⟨rfl, hb8⟩
    go_wp2
    go_ret
    exact ⟨rfl, below_after HB5.out hb8⟩
namespace lawDfaReads
open Go.ChangeShapes Go.WideShapes Go.ChangeAt Go.RowKit Go.Deep
open Go.ChangeMaps (open_string shut_string)
set_option maxRecDepth 100000 in
theorem lifted (os : Os) (started : os.Started) (H : Type) (enc : TypeId × Value → H) :
    ReturnsInHanded {} Tryz.checked os 5 .any (fun w args => (Rows.dfaReadsSpec.pre enc Tryz.prog Tryz.f5 Rows.dfaReadsRow.domain false w args ∧ laidMetH Tryz.prog [("math/bits.deBruijn32tab", Rows.laid_math_bits_deBruijn32tab), ("math/bits.deBruijn64tab", Rows.laid_math_bits_deBruijn64tab), ("internal/strconv.uint64pow10", Rows.laid_internal_strconv_uint64pow10)] w) ∧ sizedMet enc Tryz.prog Tryz.f5 (OpenSpec.ofChange Rows.dfaReadsSpec) false w args)
      (Rows.dfaReadsSpec.post enc Tryz.prog Tryz.f5 false true false false) := by
  refine returnsInHanded_of_change_and (C := Tryz.checked) (X := fun w _ => laidMetH Tryz.prog [("math/bits.deBruijn32tab", Rows.laid_math_bits_deBruijn32tab), ("math/bits.deBruijn64tab", Rows.laid_math_bits_deBruijn64tab), ("internal/strconv.uint64pow10", Rows.laid_internal_strconv_uint64pow10)] w) (fun _ _ _ hh h => h.of_heap hh) own started (by kernel_rfl) Tryz.func5
    (ChangeSpec.witness_shaped (enc := enc) (C := Tryz.checked) (os := os) (X := fun w _ => laidMetH Tryz.prog [("math/bits.deBruijn32tab", Rows.laid_math_bits_deBruijn32tab), ("math/bits.deBruijn64tab", Rows.laid_math_bits_deBruijn64tab), ("internal/strconv.uint64pow10", Rows.laid_internal_strconv_uint64pow10)] w) false (World.laidAll Tryz.prog os [("math/bits.deBruijn32tab", Rows.laid_math_bits_deBruijn32tab), ("math/bits.deBruijn64tab", Rows.laid_math_bits_deBruijn64tab), ("internal/strconv.uint64pow10", Rows.laid_internal_strconv_uint64pow10)]) #[.slice none 0 0, .string ⟨#[]⟩] 8 (World.laidAll_os _ _ _)
      (World.shaped_of_ZipB (by kernel_rfl) (by kernel_rfl)) (by kernel_rfl) (by kernel_rfl) (by kernel_rfl)
      (by rw [MakeChecks.laidMetH_plain _ _ _ (by kernel_rfl)]; exact laidMet_laidAll _ (by kernel_rfl) (by kernel_rfl))) ?_
  intro W base args ds gs before hval0 hW hcnd _ hL _
  have hval : ∀ (j : Nat) t v, Tryz.f5.params[j]? = some t → args[j]? = some v → Value.okWide Tryz.prog W .any base t v := hval0
  have hW' : DataW.Whole enc Tryz.prog Tryz.f5.params.toList Rows.dfaReadsSpec.vars false W args.toList ds gs before := hW
  obtain ⟨p, q, hA0, hV, rfl, hfz, hnd⟩ := hW
  have hA : DataW.TrodAll enc Tryz.prog W 0 (fun _ => true) true Tryz.f5.params.toList args.toList ds p := hA0
  have ht : Pow W := of_laid (by kernel_rfl) (by kernel_rfl) (by kernel_rfl) hL
  rw [Tryz.params5] at hA hval
  obtain ⟨v0, vs0, d0, ds0, p0, q0, hargs, hd0, hp0, h0, r0⟩ := trodAll_cons hA
  obtain ⟨v1, vs1, d1, ds1, p1, q1, rfl, hd1, hp1, h1, r1⟩ := trodAll_cons r0
  obtain ⟨rfl, _, _⟩ := trodAll_nil r1
  obtain rfl : args = #[v0, v1] := by cases args; simp_all
  obtain ⟨a0, len0, cap0, rfl⟩ := okWide_slice Tryz.underlying43 (hval 0 43 v0 rfl rfl)
  obtain ⟨z0, w0⟩ := open_toks h0
  obtain ⟨a1, rfl, _, _, w1⟩ := open_string Tryz.underlying9 (hval 1 9 v1 rfl rfl) h1
  refine (walkDfReads a0 len0 cap0 z0 a1 W w0 w1 ht).mono fun e W' ⟨he, hb⟩ => ⟨_, he, ends_true hW' rfl (by kernel_rfl) ?_ (by kernel_rfl) hb⟩
  intro xs hxs
  match xs, hxs with
  | [_, _], _ => rfl

theorem proved : Rows.DfaReadsSaid :=
  OpenClaim.holds_of_wide 5 Tryz.f5 rfl rfl rfl rfl rfl rfl rfl ⟨rfl, rfl, rfl, rfl, rfl⟩ rfl rfl rfl rfl rfl (by kernel_rfl) Tryz.func5 (by kernel_rfl)
    (of_decide_eq_true (by kernel_rfl)) (by unfold Func.isWrapper; first | (rw [if_pos (by decide +kernel)]; kernel_rfl) | (rw [if_neg (by decide +kernel)]; exact ⟨rfl, rfl⟩))
    (fun os started H enc _ => lifted os started H enc)

/-- the card: the row, and what it lists tied to the program's text -/
theorem card : Rows.DfaReadsCardSaid :=
  Claim7.holds_tied_plain_at .later [] [.data, .data, .data] true (true, "fb61e93243e8b48a019c411e8d844153cdeb08179d792e0bf509e74ff8910c03") false
    proved (fun _ h => by cases h) (by kernel_rfl) (fun _ h => by cases h) dfaReads_row_tie rfl ⟨rfl, rfl⟩ (by kernel_rfl) rfl
    (fun f fn hf hfn => by
      obtain rfl : f = 5 := Option.some.inj ((show Tryz.prog.funcNamed "facsimile/facsimilelaw14.DfaReads" = some 5 by kernel_rfl).symm.trans hf) |>.symm
      obtain rfl : fn = Tryz.f5 := (Option.some.inj (Tryz.func5.symm.trans hfn)).symm
      exact ⟨by kernel_rfl, fun j t ht => by
        rw [Tryz.params5] at ht
        have hm : t ∈ [43, 9] := by simpa using Array.mem_of_getElem? ht
        have hall : ([43, 9].all fun u => !Tryz.prog.wantsStandIn u) = true := by kernel_rfl
        exact (show Tryz.prog.wantsStandIn t = false by simpa using List.all_eq_true.1 hall t hm)⟩)
    (by kernel_rfl)

end lawDfaReads
end Go.Proofs.YtmpjjnjggihojaaGreatDoor
