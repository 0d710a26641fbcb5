/- 'RxfactJoins' answers true for every two lists of steps and every two words: one of two says what either says, two put together say both words together, and so on. Conditions: the listed table math/bits.deBruijn64tab holds what its initialiser lays (listed and tied). -/
import Derived.Test.YthkboclooplpeaaGreatDoorRf41
import Derived.Test.YthkboclooplpeaaGreatDoorRf43
namespace Go.Proofs.YthkboclooplpeaaGreatDoor
open Go.RowKit Go.Lib Go.Joins

/-- two slices that came in, in a literal -/
theorem two_in {w W : World} {v u : Value} {L M : List Stp} (h : SlX (fun b => b < w.heap.size) w v L) (hu : SlX (fun b => b < w.heap.size) w u M) (hb : Below w.heap.size w W) (g : Nat) (hg : g = W.heap.size) :
    SlXs (fun b => b < (W.alloc (.cells #[v, u] 22)).heap.size) (W.alloc (.cells #[v, u] 22)) (.slice (some ⟨g, 0, none⟩) 2 2) [L, M] := by
  subst hg
  have hs := hb.size
  have hk : ∀ x N, SlX (fun b => b < w.heap.size) w x N → SlX (fun b => b < (W.alloc (.cells #[v, u] 22)).heap.size) (W.alloc (.cells #[v, u] 22)) x N := fun x N hx =>
    hx.below fun b hb' => ⟨by simp; omega, (heap_alloc_old W _ (by omega)).trans (hb.block b hb')⟩
  refine ⟨_, 2, rfl, Nat.le_refl _, by decide, rfl, fun _ => ⟨W.heap.size, 0, rfl, by simp, fun i hi => ?_⟩⟩
  have hg := heap_alloc_new W (.cells #[v, u] 22)
  rw [Nat.zero_add]
  match i, hi with
  | 0, _ => exact ⟨v, cell_of_row _ _ 0 _ _ _ hg, hk _ _ h⟩
  | 1, _ => exact ⟨u, cell_of_row _ _ 1 _ _ _ hg, hk _ _ hu⟩
theorem cat_two (L M : List Stp) : catV [L, M] = L ++ M ++ [kStp 3] := by simp [catV, jn, jt]
theorem alt_two (L M : List Stp) : altV [L, M] = L ++ M ++ [kStp 4] := by simp [altV, jn, jt]
/-- Says as a Bool -/
def sayB (L : List Stp) (s : ByteArray) : Bool := lastIs (endsF L s 0) s.size
def nulB (L : List Stp) : Bool := if (measV L).2 = 0 then nul (treeE L) else false
theorem joins_facts {L M : List Stp} (hL : (measV L).2 = 0) (hM : (measV M).2 = 0) (wL : ∀ s ∈ L, s.wide) (wM : ∀ s ∈ M, s.wide) (lL : L.length ≤ 80) (lM : M.length ≤ 80) (v u : ByteArray) :
    sayB (L ++ M ++ [kStp 4]) v = (sayB L v || sayB M v) ∧ (sayB L v = true → sayB M u = true → sayB (L ++ M ++ [kStp 3]) (v ++ u) = true) ∧ sayB (L ++ [kStp 5]) ⟨#[]⟩ = true ∧
    (sayB L v = true → sayB (L ++ [kStp 5]) (v ++ v) = true ∧ sayB (L ++ [kStp 6]) v = true ∧ sayB (L ++ [kStp 7]) v = true) ∧ nulB (L ++ [kStp 6]) = nulB L := by
  obtain ⟨_, eL⟩ := meas_expr hL
  obtain ⟨_, eM⟩ := meas_expr hM
  have m4 : (measV (L ++ M ++ [kStp 4])).2 = 0 := by rw [expr_meas (expr_two eL eM (.inr rfl)) (by simp; omega)]
  have m3 : (measV (L ++ M ++ [kStp 3])).2 = 0 := by rw [expr_meas (expr_two eL eM (.inl rfl)) (by simp; omega)]
  have m1 : ∀ k : Int, k = 5 ∨ k = 6 ∨ k = 7 → (measV (L ++ [kStp k])).2 = 0 := fun k hk => by rw [expr_meas (expr_one eL hk) (by simp; omega)]
  have s1 : ∀ s, sayB L s = true ↔ Lang (treeE L) (byN s) := fun s => by unfold sayB; rw [says_lang wL]; simp [hL]
  have s2 : ∀ s, sayB M s = true ↔ Lang (treeE M) (byN s) := fun s => by unfold sayB; rw [says_lang wM]; simp [hM]
  refine ⟨?_, fun h1 h2 => ?_, ?_, fun h => ⟨?_, ?_, ?_⟩, ?_⟩
  · rw [Bool.eq_iff_iff, Bool.or_eq_true, s1, s2]
    unfold sayB
    rw [says_lang (wide_two 4 wL wM), tree_alt eL eM wL wM]
    exact ⟨fun h => h.2, fun h => ⟨m4, h⟩⟩
  · unfold sayB
    rw [says_lang (wide_two 3 wL wM), tree_cat eL eM wL wM]
    refine ⟨m3, ?_⟩
    rw [byN_append]
    exact ⟨_, _, rfl, (s1 v).1 h1, (s2 u).1 h2⟩
  · unfold sayB
    rw [says_lang (wide_one 5 wL), tree_un eL wL (.inl rfl)]
    exact ⟨m1 5 (.inl rfl), .inl rfl⟩
  · unfold sayB
    rw [says_lang (wide_one 5 wL), tree_un eL wL (.inl rfl), byN_append]
    have h' := (s1 v).1 h
    exact ⟨m1 5 (.inl rfl), .inr (.more h' (.one h'))⟩
  · unfold sayB
    rw [says_lang (wide_one 6 wL), tree_un eL wL (.inr (.inl rfl))]
    exact ⟨m1 6 (.inr (.inl rfl)), .one ((s1 v).1 h)⟩
  · unfold sayB
    rw [says_lang (wide_one 7 wL), tree_un eL wL (.inr (.inr rfl))]
    exact ⟨m1 7 (.inr (.inr rfl)), .inr ((s1 v).1 h)⟩
  · unfold nulB
    rw [if_pos (m1 6 (.inr (.inl rfl))), if_pos hL, tree_un eL wL (.inr (.inl rfl))]
    simp [nul]
set_option maxHeartbeats 16000000 in
set_option maxRecDepth 100000 in
theorem walkJoins (a0 : Option Addr) (len0 cap0 : Nat) (L : List Stp) (a1 : Option Addr) (len1 cap1 : Nat) (M : List Stp) (v u : ByteArray) (w : World) (h : SlX (fun b => b < w.heap.size) w (.slice a0 len0 cap0) L ∧ ∀ s ∈ L, s.fit) (h' : SlX (fun b => b < w.heap.size) w (.slice a1 len1 cap1) M ∧ ∀ s ∈ M, s.fit) (_ : v.size ≤ maxLen) (_ : u.size ≤ maxLen) (ht : Tab w) :
    Calls Tryz.prog 5 #[.slice a0 len0 cap0, .slice a1 len1 cap1, .string v, .string u] w fun e w' => e = .returned (.bool true) ∧ Below w.heap.size w w' := by
  obtain ⟨hX, hfit⟩ := h
  obtain ⟨hY, hfit2⟩ := h'
  have hwd : ∀ s ∈ L, s.wide := fun s hs => fit_wide (hfit s hs)
  have hwd2 : ∀ s ∈ M, s.wide := fun s hs => fit_wide (hfit2 s hs)
  have HFa := hidden (few_calls hX)
  have HFb := hidden (few_calls hY)
  have HCa := hidden (fun W (hb : Below w.heap.size w W) => check_slX (hX.later hb) (fun b hb => hb))
  have HCb := hidden (fun W (hb : Below w.heap.size w W) => check_slX (hY.later hb) (fun b hb => hb))
  have HTB := hidden ht
  have HX := hidden (fun W (hb : Below w.heap.size w W) => hX.later hb)
  have HY := hidden (fun W (hb : Below w.heap.size w W) => hY.later hb)
  have HXY := hidden (fun W (hb : Below w.heap.size w W) g hg => two_in hX hY hb g hg)
  have HWD := hidden hwd
  have HWE := hidden hwd2
  clear ht hX hwd hfit hY hwd2 hfit2
  by_cases p0 : L.length ≤ 80
  case neg =>
    rw [decide_eq_false p0] at HFa
    clear p0
    go_enter Tryz.func5, Tryz.ntmps5
    go_wp2_with fail
    refine (HFa.out).mono ?_
    rintro e w1 ⟨rfl, rfl⟩
    go_wp2_with fail
    refine (knows_calls _ (HTB.out.below (Below.refl _ _))).mono ?_
    rintro e w4 ⟨rfl, hb4⟩
    go_wp2
    go_ret
    exact ⟨rfl, below_after (Below.refl _ _) hb4⟩
  rw [decide_eq_true p0] at HFa
  by_cases p1 : M.length ≤ 80
  case neg =>
    rw [decide_eq_false p1] at HFb
    clear p0 p1
    go_enter Tryz.func5, Tryz.ntmps5
    go_wp2_with fail
    refine (HFa.out).mono ?_
    rintro e w1 ⟨rfl, rfl⟩
    go_wp2_with fail
    refine (HFb.out).mono ?_
    rintro e w1 ⟨rfl, rfl⟩
    go_wp2_with fail
    refine (knows_calls _ (HTB.out.below (Below.refl _ _))).mono ?_
    rintro e w4 ⟨rfl, hb4⟩
    go_wp2
    go_ret
    exact ⟨rfl, below_after (Below.refl _ _) hb4⟩
  rw [decide_eq_true p1] at HFb
  by_cases p2 : 20 < v.size
  case pos =>
    have q2 : decide ((20 : Int) < v.size) = true := decide_eq_true (by omega)
    clear p0 p1 p2
    go_enter Tryz.func5, Tryz.ntmps5
    go_wp2_with fail
    refine (HFa.out).mono ?_
    rintro e w1 ⟨rfl, rfl⟩
    go_wp2_with fail
    refine (HFb.out).mono ?_
    rintro e w1 ⟨rfl, rfl⟩
    go_wp2_with fail
    refine (knows_calls _ (HTB.out.below (Below.refl _ _))).mono ?_
    rintro e w4 ⟨rfl, hb4⟩
    go_wp2
    go_ret
    exact ⟨rfl, below_after (Below.refl _ _) hb4⟩
  have q2 : decide ((20 : Int) < v.size) = false := decide_eq_false (by omega)
  by_cases p3 : 20 < u.size
  case pos =>
    have q3 : decide ((20 : Int) < u.size) = true := decide_eq_true (by omega)
    clear p0 p1 p2 p3
    go_enter Tryz.func5, Tryz.ntmps5
    go_wp2_with fail
    refine (HFa.out).mono ?_
    rintro e w1 ⟨rfl, rfl⟩
    go_wp2_with fail
    refine (HFb.out).mono ?_
    rintro e w1 ⟨rfl, rfl⟩
    go_wp2_with fail
    refine (knows_calls _ (HTB.out.below (Below.refl _ _))).mono ?_
    rintro e w4 ⟨rfl, hb4⟩
    go_wp2
    go_ret
    exact ⟨rfl, below_after (Below.refl _ _) hb4⟩
  have q3 : decide ((20 : Int) < u.size) = false := decide_eq_false (by omega)
  by_cases p4 : (measV L).2 = 0
  case neg =>
    have q4 : ((measV L).2 != 0) = true := by simpa using p4
    generalize (measV L).2 = c4 at *
    clear p0 p1 p2 p3 p4
    go_enter Tryz.func5, Tryz.ntmps5
    go_wp2_with fail
    refine (HFa.out).mono ?_
    rintro e w1 ⟨rfl, rfl⟩
    go_wp2_with fail
    refine (HFb.out).mono ?_
    rintro e w1 ⟨rfl, rfl⟩
    go_wp2_with fail
    refine (HCa.out _ (Below.refl _ _)).mono ?_
    rintro e w2 ⟨rfl, hb2⟩
    go_wp2_with fail
    refine (knows_calls _ (HTB.out.below (hb2))).mono ?_
    rintro e w4 ⟨rfl, hb4⟩
    go_wp2
    go_ret
    exact ⟨rfl, below_after (hb2) hb4⟩
  by_cases p5 : (measV M).2 = 0
  case neg =>
    have q5 : ((measV M).2 != 0) = true := by simpa using p5
    rw [p4] at HCa
    generalize (measV M).2 = c5 at *
    clear p0 p1 p2 p3 p4 p5
    go_enter Tryz.func5, Tryz.ntmps5
    go_wp2_with fail
    refine (HFa.out).mono ?_
    rintro e w1 ⟨rfl, rfl⟩
    go_wp2_with fail
    refine (HFb.out).mono ?_
    rintro e w1 ⟨rfl, rfl⟩
    go_wp2_with fail
    refine (HCa.out _ (Below.refl _ _)).mono ?_
    rintro e w2 ⟨rfl, hb2⟩
    have HB2 := hidden hb2
    clear hb2
    go_wp2_with fail
    refine (HCb.out _ HB2.out).mono ?_
    rintro e w3 ⟨rfl, hb3⟩
    have HB3 := hidden (below_after HB2.out hb3)
    clear hb3
    go_wp2_with fail
    refine (knows_calls _ (HTB.out.below (HB3.out))).mono ?_
    rintro e w4 ⟨rfl, hb4⟩
    go_wp2
    go_ret
    exact ⟨rfl, below_after (HB3.out) hb4⟩
  obtain ⟨f1, f2, f3, f4, f5⟩ := joins_facts p4 p5 HWD.out HWE.out p0 p1 v u
  rw [p4] at HCa
  rw [p5] at HCb
  have hvu : (v ++ u).size = v.size + u.size := ByteArray.size_append
  have hvv : (v ++ v).size = v.size + v.size := ByteArray.size_append
  have SA := hidden (fun W (hb : Below w.heap.size w W) (s : ByteArray) (hs : s.size ≤ 40) => Says_calls (s := s) (HX.out W hb) (fun b hb => hb) HWD.out (HTB.out.below hb) (by omega))
  have SB := hidden (fun W (hb : Below w.heap.size w W) (s : ByteArray) (hs : s.size ≤ 40) => Says_calls (s := s) (HY.out W hb) (fun b hb => hb) HWE.out (HTB.out.below hb) (by omega))
  have SR := hidden (fun W base (hb : Below w.heap.size w W) vv K (hK : ReadsX W base vv K) (hw : ∀ s ∈ K, s.wide) (s : ByteArray) (hs : s.size ≤ 40) => Says_calls (s := s) hK (fun b hb => hb.2) hw (HTB.out.below hb) (by omega))
  have NA := hidden (fun W (hb : Below w.heap.size w W) => Nullable_calls (HX.out W hb) (fun b hb => hb) HWD.out)
  have NR := hidden (fun W base vv K (hK : ReadsX W base vv K) (hw : ∀ s ∈ K, s.wide) => Nullable_calls hK (fun b hb => hb.2) hw)
  have HST := hidden (fun W (hb : Below w.heap.size w W) => starx_calls W _ L (HX.out W hb) (fun b hb => hb) (by omega))
  have HPL := hidden (fun W (hb : Below w.heap.size w W) => plusx_calls W _ L (HX.out W hb) (fun b hb => hb) (by omega))
  have HOP := hidden (fun W (hb : Below w.heap.size w W) => optx_calls W _ L (HX.out W hb) (fun b hb => hb) (by omega))
  have HAL := hidden (fun W (hb : Below w.heap.size w W) g hg => altx_calls (W.alloc (.cells #[.slice a0 len0 cap0, .slice a1 len1 cap1] 22)) _ _ (HXY.out W hb g hg) (fun b hb => hb) (by rw [alt_two]; simp; omega))
  have HCT := hidden (fun W (hb : Below w.heap.size w W) g hg => catx_calls (W.alloc (.cells #[.slice a0 len0 cap0, .slice a1 len1 cap1] 22)) _ _ (HXY.out W hb g hg) (fun b hb => hb) (by rw [cat_two]; simp; omega))
  rw [alt_two] at HAL
  rw [cat_two] at HCT
  have W5 := hidden (wide_one 5 HWD.out)
  have W6 := hidden (wide_one 6 HWD.out)
  have W7 := hidden (wide_one 7 HWD.out)
  have W4 := hidden (wide_two 4 HWD.out HWE.out)
  have W3 := hidden (wide_two 3 HWD.out HWE.out)
  change Hid (∀ W, Below w.heap.size w W → ∀ s : ByteArray, s.size ≤ 40 → Calls Tryz.prog 9 #[.slice a0 len0 cap0, .string s] W fun e w' => e = .returned (.bool (sayB L s)) ∧ Below W.heap.size W w') at SA
  change Hid (∀ W, Below w.heap.size w W → ∀ s : ByteArray, s.size ≤ 40 → Calls Tryz.prog 9 #[.slice a1 len1 cap1, .string s] W fun e w' => e = .returned (.bool (sayB M s)) ∧ Below W.heap.size W w') at SB
  change Hid (∀ W base, Below w.heap.size w W → ∀ vv K, ReadsX W base vv K → (∀ s ∈ K, s.wide) → ∀ s : ByteArray, s.size ≤ 40 → Calls Tryz.prog 9 #[vv, .string s] W fun e w' => e = .returned (.bool (sayB K s)) ∧ Below W.heap.size W w') at SR
  change Hid (∀ W, Below w.heap.size w W → Calls Tryz.prog 14 #[.slice a0 len0 cap0] W fun e w' => e = .returned (.bool (nulB L)) ∧ Below W.heap.size W w') at NA
  change Hid (∀ W base vv K, ReadsX W base vv K → (∀ s ∈ K, s.wide) → Calls Tryz.prog 14 #[vv] W fun e w' => e = .returned (.bool (nulB K)) ∧ Below W.heap.size W w') at NR
  have sv : v.size ≤ 40 := by omega
  have su : u.size ≤ 40 := by omega
  have svu : (v ++ u).size ≤ 40 := by omega
  have svv : (v ++ v).size ≤ 40 := by omega
  have hgu : decide ((v ++ u).size ≤ maxLen) = true := decide_eq_true (by unfold maxLen; omega)
  have hgv : decide ((v ++ v).size ≤ maxLen) = true := decide_eq_true (by unfold maxLen; omega)
  clear p0 p1 p2 p3 p4 p5 hvu hvv
  obtain ⟨z, hz⟩ : ∃ z, z = sayB M v := ⟨_, rfl⟩
  obtain ⟨nl, hnl⟩ : ∃ nl, nl = nulB L := ⟨_, rfl⟩
  rw [← hz] at f1
  rw [← hnl] at f5
  have hzz : (z != z) = false := by simp
  have hnn : (nl == nl) = true := by simp
  by_cases hxy : sayB L v = true ∧ sayB M u = true
  case pos =>
    obtain ⟨hx, hy⟩ := hxy
    rw [hx] at f1 f2 f4
    rw [hy] at f2
    simp only [Bool.true_or] at f1
    obtain ⟨g1, g2, g3⟩ := f4 rfl
    clear f4
    have g4 := f2 rfl rfl
    clear f2
    go_enter Tryz.func5, Tryz.ntmps5
    go_wp2_with fail
    refine (HFa.out).mono ?_
    rintro e w1 ⟨rfl, rfl⟩
    go_wp2_with fail
    refine (HFb.out).mono ?_
    rintro e w1 ⟨rfl, rfl⟩
    go_wp2_with fail
    refine (HCa.out _ (Below.refl _ _)).mono ?_
    rintro e w1 ⟨rfl, hb1⟩
    have HB1 := hidden (hb1)
    clear hb1
    go_wp2_with fail
    refine (HCb.out _ HB1.out).mono ?_
    rintro e w2 ⟨rfl, hb2⟩
    have HB2 := hidden (below_after HB1.out hb2)
    clear hb2
    go_wp2_with fail
    refine (SA.out _ HB2.out v sv).mono ?_
    rintro e w3 ⟨rfl, hb3⟩
    rw [hx]
    have HB3 := hidden (below_after HB2.out hb3)
    clear hb3
    go_wp2_with fail
    refine (SB.out _ HB3.out u su).mono ?_
    rintro e w4 ⟨rfl, hb4⟩
    rw [hy]
    have HB4 := hidden (below_after HB3.out hb4)
    clear hb4
    go_wp2_with fail
    refine (HST.out _ HB4.out).mono ?_
    rintro e w5 ⟨vRS, rfl, hr5, hb5⟩
    have HB5 := hidden (below_after HB4.out hb5)
    have RS_5 := hidden hr5.reads
    obtain ⟨aRS, lRS, cRS, rfl⟩ := row_slice hr5
    clear hr5 hb5
    go_wp2_with fail
    refine (HAL.out _ HB5.out _ rfl).mono ?_
    rintro e w6 ⟨vRA, rfl, hr6, hb6⟩
    have HB6 := hidden (below_after HB5.out (below_then ((Below.refl _ _).alloc (Nat.le_refl _) (.cells #[.slice a0 len0 cap0, .slice a1 len1 cap1] 22)) (by simp) hb6))
    have RS_6 := hidden (RS_5.out.kept (below_then ((Below.refl _ _).alloc (Nat.le_refl _) (.cells #[.slice a0 len0 cap0, .slice a1 len1 cap1] 22)) (by simp) hb6))
    have RA_6 := hidden hr6.reads
    obtain ⟨aRA, lRA, cRA, rfl⟩ := row_slice hr6
    clear hr6 hb6
    go_wp2_with fail
    refine (SR.out _ _ HB6.out _ _ RA_6.out W4.out v sv).mono ?_
    rintro e w7 ⟨rfl, hb7⟩
    rw [f1]
    have HB7 := hidden (below_after HB6.out hb7)
    have RS_7 := hidden (RS_6.out.kept hb7)
    have RA_7 := hidden (RA_6.out.kept hb7)
    clear hb7
    go_wp2_with fail
    refine (HCT.out _ HB7.out _ rfl).mono ?_
    rintro e w8 ⟨vRC, rfl, hr8, hb8⟩
    have HB8 := hidden (below_after HB7.out (below_then ((Below.refl _ _).alloc (Nat.le_refl _) (.cells #[.slice a0 len0 cap0, .slice a1 len1 cap1] 22)) (by simp) hb8))
    have RS_8 := hidden (RS_7.out.kept (below_then ((Below.refl _ _).alloc (Nat.le_refl _) (.cells #[.slice a0 len0 cap0, .slice a1 len1 cap1] 22)) (by simp) hb8))
    have RC_8 := hidden hr8.reads
    obtain ⟨aRC, lRC, cRC, rfl⟩ := row_slice hr8
    clear hr8 hb8
    go_wp2_with fail
    refine (SR.out _ _ HB8.out _ _ RC_8.out W3.out _ svu).mono ?_
    rintro e w9 ⟨rfl, hb9⟩
    rw [g4]
    have HB9 := hidden (below_after HB8.out hb9)
    have RS_9 := hidden (RS_8.out.kept hb9)
    have RC_9 := hidden (RC_8.out.kept hb9)
    clear hb9
    go_wp2_with fail
    refine (SR.out _ _ HB9.out _ _ RS_9.out W5.out ⟨#[]⟩ (by decide)).mono ?_
    rintro e w10 ⟨rfl, hb10⟩
    rw [f3]
    have HB10 := hidden (below_after HB9.out hb10)
    have RS_10 := hidden (RS_9.out.kept hb10)
    clear hb10
    go_wp2_with fail
    refine (SR.out _ _ HB10.out _ _ RS_10.out W5.out _ svv).mono ?_
    rintro e w11 ⟨rfl, hb11⟩
    rw [g1]
    have HB11 := hidden (below_after HB10.out hb11)
    have RS_11 := hidden (RS_10.out.kept hb11)
    clear hb11
    go_wp2_with fail
    refine (HPL.out _ HB11.out).mono ?_
    rintro e w12 ⟨vRP, rfl, hr12, hb12⟩
    have HB12 := hidden (below_after HB11.out hb12)
    have RS_12 := hidden (RS_11.out.kept hb12)
    have RP_12 := hidden hr12.reads
    obtain ⟨aRP, lRP, cRP, rfl⟩ := row_slice hr12
    clear hr12 hb12
    go_wp2_with fail
    refine (SR.out _ _ HB12.out _ _ RP_12.out W6.out v sv).mono ?_
    rintro e w13 ⟨rfl, hb13⟩
    rw [g2]
    have HB13 := hidden (below_after HB12.out hb13)
    have RS_13 := hidden (RS_12.out.kept hb13)
    have RP_13 := hidden (RP_12.out.kept hb13)
    clear hb13
    go_wp2_with fail
    refine (HOP.out _ HB13.out).mono ?_
    rintro e w14 ⟨vRO, rfl, hr14, hb14⟩
    have HB14 := hidden (below_after HB13.out hb14)
    have RS_14 := hidden (RS_13.out.kept hb14)
    have RO_14 := hidden hr14.reads
    obtain ⟨aRO, lRO, cRO, rfl⟩ := row_slice hr14
    clear hr14 hb14
    go_wp2_with fail
    refine (SR.out _ _ HB14.out _ _ RO_14.out W7.out v sv).mono ?_
    rintro e w15 ⟨rfl, hb15⟩
    rw [g3]
    have HB15 := hidden (below_after HB14.out hb15)
    have RS_15 := hidden (RS_14.out.kept hb15)
    have RO_15 := hidden (RO_14.out.kept hb15)
    clear hb15
    go_wp2_with fail
    refine (HPL.out _ HB15.out).mono ?_
    rintro e w16 ⟨vRQ, rfl, hr16, hb16⟩
    have HB16 := hidden (below_after HB15.out hb16)
    have RQ_16 := hidden hr16.reads
    obtain ⟨aRQ, lRQ, cRQ, rfl⟩ := row_slice hr16
    clear hr16 hb16
    go_wp2_with fail
    refine (NR.out _ _ _ _ RQ_16.out W6.out).mono ?_
    rintro e w17 ⟨rfl, hb17⟩
    rw [f5]
    have HB17 := hidden (below_after HB16.out hb17)
    have RQ_17 := hidden (RQ_16.out.kept hb17)
    clear hb17
    go_wp2_with fail
    refine (NA.out _ HB17.out).mono ?_
    rintro e w18 ⟨rfl, hb18⟩
    have HB18 := hidden (below_after HB17.out hb18)
    clear hb18
    go_wp2_with fail
    refine (knows_calls _ (HTB.out.below HB18.out)).mono ?_
    rintro e w99 ⟨rfl, hb99⟩
    go_wp2
    go_ret
    exact ⟨rfl, below_after HB18.out hb99⟩
  have n3 := hxy
  clear hxy
  by_cases hxy : sayB L v = true ∧ sayB M u = false
  case pos =>
    obtain ⟨hx, hy⟩ := hxy
    rw [hx] at f1 f2 f4
    rw [hy] at f2
    simp only [Bool.true_or] at f1
    obtain ⟨g1, g2, g3⟩ := f4 rfl
    clear f4
    clear f2
    go_enter Tryz.func5, Tryz.ntmps5
    go_wp2_with fail
    refine (HFa.out).mono ?_
    rintro e w1 ⟨rfl, rfl⟩
    go_wp2_with fail
    refine (HFb.out).mono ?_
    rintro e w1 ⟨rfl, rfl⟩
    go_wp2_with fail
    refine (HCa.out _ (Below.refl _ _)).mono ?_
    rintro e w1 ⟨rfl, hb1⟩
    have HB1 := hidden (hb1)
    clear hb1
    go_wp2_with fail
    refine (HCb.out _ HB1.out).mono ?_
    rintro e w2 ⟨rfl, hb2⟩
    have HB2 := hidden (below_after HB1.out hb2)
    clear hb2
    go_wp2_with fail
    refine (SA.out _ HB2.out v sv).mono ?_
    rintro e w3 ⟨rfl, hb3⟩
    rw [hx]
    have HB3 := hidden (below_after HB2.out hb3)
    clear hb3
    go_wp2_with fail
    refine (SB.out _ HB3.out u su).mono ?_
    rintro e w4 ⟨rfl, hb4⟩
    rw [hy]
    have HB4 := hidden (below_after HB3.out hb4)
    clear hb4
    go_wp2_with fail
    refine (HST.out _ HB4.out).mono ?_
    rintro e w5 ⟨vRS, rfl, hr5, hb5⟩
    have HB5 := hidden (below_after HB4.out hb5)
    have RS_5 := hidden hr5.reads
    obtain ⟨aRS, lRS, cRS, rfl⟩ := row_slice hr5
    clear hr5 hb5
    go_wp2_with fail
    refine (HAL.out _ HB5.out _ rfl).mono ?_
    rintro e w6 ⟨vRA, rfl, hr6, hb6⟩
    have HB6 := hidden (below_after HB5.out (below_then ((Below.refl _ _).alloc (Nat.le_refl _) (.cells #[.slice a0 len0 cap0, .slice a1 len1 cap1] 22)) (by simp) hb6))
    have RS_6 := hidden (RS_5.out.kept (below_then ((Below.refl _ _).alloc (Nat.le_refl _) (.cells #[.slice a0 len0 cap0, .slice a1 len1 cap1] 22)) (by simp) hb6))
    have RA_6 := hidden hr6.reads
    obtain ⟨aRA, lRA, cRA, rfl⟩ := row_slice hr6
    clear hr6 hb6
    go_wp2_with fail
    refine (SR.out _ _ HB6.out _ _ RA_6.out W4.out v sv).mono ?_
    rintro e w7 ⟨rfl, hb7⟩
    rw [f1]
    have HB7 := hidden (below_after HB6.out hb7)
    have RS_7 := hidden (RS_6.out.kept hb7)
    have RA_7 := hidden (RA_6.out.kept hb7)
    clear hb7
    go_wp2_with fail
    refine (SR.out _ _ HB7.out _ _ RS_7.out W5.out ⟨#[]⟩ (by decide)).mono ?_
    rintro e w8 ⟨rfl, hb8⟩
    rw [f3]
    have HB8 := hidden (below_after HB7.out hb8)
    have RS_8 := hidden (RS_7.out.kept hb8)
    clear hb8
    go_wp2_with fail
    refine (SR.out _ _ HB8.out _ _ RS_8.out W5.out _ svv).mono ?_
    rintro e w9 ⟨rfl, hb9⟩
    rw [g1]
    have HB9 := hidden (below_after HB8.out hb9)
    have RS_9 := hidden (RS_8.out.kept hb9)
    clear hb9
    go_wp2_with fail
    refine (HPL.out _ HB9.out).mono ?_
    rintro e w10 ⟨vRP, rfl, hr10, hb10⟩
    have HB10 := hidden (below_after HB9.out hb10)
    have RS_10 := hidden (RS_9.out.kept hb10)
    have RP_10 := hidden hr10.reads
    obtain ⟨aRP, lRP, cRP, rfl⟩ := row_slice hr10
    clear hr10 hb10
    go_wp2_with fail
    refine (SR.out _ _ HB10.out _ _ RP_10.out W6.out v sv).mono ?_
    rintro e w11 ⟨rfl, hb11⟩
    rw [g2]
    have HB11 := hidden (below_after HB10.out hb11)
    have RS_11 := hidden (RS_10.out.kept hb11)
    have RP_11 := hidden (RP_10.out.kept hb11)
    clear hb11
    go_wp2_with fail
    refine (HOP.out _ HB11.out).mono ?_
    rintro e w12 ⟨vRO, rfl, hr12, hb12⟩
    have HB12 := hidden (below_after HB11.out hb12)
    have RS_12 := hidden (RS_11.out.kept hb12)
    have RO_12 := hidden hr12.reads
    obtain ⟨aRO, lRO, cRO, rfl⟩ := row_slice hr12
    clear hr12 hb12
    go_wp2_with fail
    refine (SR.out _ _ HB12.out _ _ RO_12.out W7.out v sv).mono ?_
    rintro e w13 ⟨rfl, hb13⟩
    rw [g3]
    have HB13 := hidden (below_after HB12.out hb13)
    have RS_13 := hidden (RS_12.out.kept hb13)
    have RO_13 := hidden (RO_12.out.kept hb13)
    clear hb13
    go_wp2_with fail
    refine (HPL.out _ HB13.out).mono ?_
    rintro e w14 ⟨vRQ, rfl, hr14, hb14⟩
    have HB14 := hidden (below_after HB13.out hb14)
    have RQ_14 := hidden hr14.reads
    obtain ⟨aRQ, lRQ, cRQ, rfl⟩ := row_slice hr14
    clear hr14 hb14
    go_wp2_with fail
    refine (NR.out _ _ _ _ RQ_14.out W6.out).mono ?_
    rintro e w15 ⟨rfl, hb15⟩
    rw [f5]
    have HB15 := hidden (below_after HB14.out hb15)
    have RQ_15 := hidden (RQ_14.out.kept hb15)
    clear hb15
    go_wp2_with fail
    refine (NA.out _ HB15.out).mono ?_
    rintro e w16 ⟨rfl, hb16⟩
    have HB16 := hidden (below_after HB15.out hb16)
    clear hb16
    go_wp2_with fail
    refine (knows_calls _ (HTB.out.below HB16.out)).mono ?_
    rintro e w99 ⟨rfl, hb99⟩
    go_wp2
    go_ret
    exact ⟨rfl, below_after HB16.out hb99⟩
  have n2 := hxy
  clear hxy
  by_cases hxy : sayB L v = false ∧ sayB M u = true
  case pos =>
    obtain ⟨hx, hy⟩ := hxy
    rw [hx] at f1 f2 f4
    rw [hy] at f2
    simp only [Bool.false_or] at f1
    clear f2 f4
    go_enter Tryz.func5, Tryz.ntmps5
    go_wp2_with fail
    refine (HFa.out).mono ?_
    rintro e w1 ⟨rfl, rfl⟩
    go_wp2_with fail
    refine (HFb.out).mono ?_
    rintro e w1 ⟨rfl, rfl⟩
    go_wp2_with fail
    refine (HCa.out _ (Below.refl _ _)).mono ?_
    rintro e w1 ⟨rfl, hb1⟩
    have HB1 := hidden (hb1)
    clear hb1
    go_wp2_with fail
    refine (HCb.out _ HB1.out).mono ?_
    rintro e w2 ⟨rfl, hb2⟩
    have HB2 := hidden (below_after HB1.out hb2)
    clear hb2
    go_wp2_with fail
    refine (SA.out _ HB2.out v sv).mono ?_
    rintro e w3 ⟨rfl, hb3⟩
    rw [hx]
    have HB3 := hidden (below_after HB2.out hb3)
    clear hb3
    go_wp2_with fail
    refine (SB.out _ HB3.out u su).mono ?_
    rintro e w4 ⟨rfl, hb4⟩
    rw [hy]
    have HB4 := hidden (below_after HB3.out hb4)
    clear hb4
    go_wp2_with fail
    refine (HST.out _ HB4.out).mono ?_
    rintro e w5 ⟨vRS, rfl, hr5, hb5⟩
    have HB5 := hidden (below_after HB4.out hb5)
    have RS_5 := hidden hr5.reads
    obtain ⟨aRS, lRS, cRS, rfl⟩ := row_slice hr5
    clear hr5 hb5
    go_wp2_with fail
    refine (HAL.out _ HB5.out _ rfl).mono ?_
    rintro e w6 ⟨vRA, rfl, hr6, hb6⟩
    have HB6 := hidden (below_after HB5.out (below_then ((Below.refl _ _).alloc (Nat.le_refl _) (.cells #[.slice a0 len0 cap0, .slice a1 len1 cap1] 22)) (by simp) hb6))
    have RS_6 := hidden (RS_5.out.kept (below_then ((Below.refl _ _).alloc (Nat.le_refl _) (.cells #[.slice a0 len0 cap0, .slice a1 len1 cap1] 22)) (by simp) hb6))
    have RA_6 := hidden hr6.reads
    obtain ⟨aRA, lRA, cRA, rfl⟩ := row_slice hr6
    clear hr6 hb6
    go_wp2_with fail
    refine (SR.out _ _ HB6.out _ _ RA_6.out W4.out v sv).mono ?_
    rintro e w7 ⟨rfl, hb7⟩
    rw [f1]
    have HB7 := hidden (below_after HB6.out hb7)
    have RS_7 := hidden (RS_6.out.kept hb7)
    have RA_7 := hidden (RA_6.out.kept hb7)
    clear hb7
    go_wp2_with fail
    refine (SB.out _ HB7.out v sv).mono ?_
    rintro e w8 ⟨rfl, hb8⟩
    have HB8 := hidden (below_after HB7.out hb8)
    have RS_8 := hidden (RS_7.out.kept hb8)
    clear hb8
    go_wp2_with fail
    refine (SR.out _ _ HB8.out _ _ RS_8.out W5.out ⟨#[]⟩ (by decide)).mono ?_
    rintro e w9 ⟨rfl, hb9⟩
    rw [f3]
    have HB9 := hidden (below_after HB8.out hb9)
    have RS_9 := hidden (RS_8.out.kept hb9)
    clear hb9
    go_wp2_with fail
    refine (HPL.out _ HB9.out).mono ?_
    rintro e w10 ⟨vRQ, rfl, hr10, hb10⟩
    have HB10 := hidden (below_after HB9.out hb10)
    have RQ_10 := hidden hr10.reads
    obtain ⟨aRQ, lRQ, cRQ, rfl⟩ := row_slice hr10
    clear hr10 hb10
    go_wp2_with fail
    refine (NR.out _ _ _ _ RQ_10.out W6.out).mono ?_
    rintro e w11 ⟨rfl, hb11⟩
    rw [f5]
    have HB11 := hidden (below_after HB10.out hb11)
    have RQ_11 := hidden (RQ_10.out.kept hb11)
    clear hb11
    go_wp2_with fail
    refine (NA.out _ HB11.out).mono ?_
    rintro e w12 ⟨rfl, hb12⟩
    have HB12 := hidden (below_after HB11.out hb12)
    clear hb12
    go_wp2_with fail
    refine (knows_calls _ (HTB.out.below HB12.out)).mono ?_
    rintro e w99 ⟨rfl, hb99⟩
    go_wp2
    go_ret
    exact ⟨rfl, below_after HB12.out hb99⟩
  have n1 := hxy
  clear hxy
  by_cases hxy : sayB L v = false ∧ sayB M u = false
  case pos =>
    obtain ⟨hx, hy⟩ := hxy
    rw [hx] at f1 f2 f4
    rw [hy] at f2
    simp only [Bool.false_or] at f1
    clear f2 f4
    go_enter Tryz.func5, Tryz.ntmps5
    go_wp2_with fail
    refine (HFa.out).mono ?_
    rintro e w1 ⟨rfl, rfl⟩
    go_wp2_with fail
    refine (HFb.out).mono ?_
    rintro e w1 ⟨rfl, rfl⟩
    go_wp2_with fail
    refine (HCa.out _ (Below.refl _ _)).mono ?_
    rintro e w1 ⟨rfl, hb1⟩
    have HB1 := hidden (hb1)
    clear hb1
    go_wp2_with fail
    refine (HCb.out _ HB1.out).mono ?_
    rintro e w2 ⟨rfl, hb2⟩
    have HB2 := hidden (below_after HB1.out hb2)
    clear hb2
    go_wp2_with fail
    refine (SA.out _ HB2.out v sv).mono ?_
    rintro e w3 ⟨rfl, hb3⟩
    rw [hx]
    have HB3 := hidden (below_after HB2.out hb3)
    clear hb3
    go_wp2_with fail
    refine (SB.out _ HB3.out u su).mono ?_
    rintro e w4 ⟨rfl, hb4⟩
    rw [hy]
    have HB4 := hidden (below_after HB3.out hb4)
    clear hb4
    go_wp2_with fail
    refine (HST.out _ HB4.out).mono ?_
    rintro e w5 ⟨vRS, rfl, hr5, hb5⟩
    have HB5 := hidden (below_after HB4.out hb5)
    have RS_5 := hidden hr5.reads
    obtain ⟨aRS, lRS, cRS, rfl⟩ := row_slice hr5
    clear hr5 hb5
    go_wp2_with fail
    refine (HAL.out _ HB5.out _ rfl).mono ?_
    rintro e w6 ⟨vRA, rfl, hr6, hb6⟩
    have HB6 := hidden (below_after HB5.out (below_then ((Below.refl _ _).alloc (Nat.le_refl _) (.cells #[.slice a0 len0 cap0, .slice a1 len1 cap1] 22)) (by simp) hb6))
    have RS_6 := hidden (RS_5.out.kept (below_then ((Below.refl _ _).alloc (Nat.le_refl _) (.cells #[.slice a0 len0 cap0, .slice a1 len1 cap1] 22)) (by simp) hb6))
    have RA_6 := hidden hr6.reads
    obtain ⟨aRA, lRA, cRA, rfl⟩ := row_slice hr6
    clear hr6 hb6
    go_wp2_with fail
    refine (SR.out _ _ HB6.out _ _ RA_6.out W4.out v sv).mono ?_
    rintro e w7 ⟨rfl, hb7⟩
    rw [f1]
    have HB7 := hidden (below_after HB6.out hb7)
    have RS_7 := hidden (RS_6.out.kept hb7)
    have RA_7 := hidden (RA_6.out.kept hb7)
    clear hb7
    go_wp2_with fail
    refine (SB.out _ HB7.out v sv).mono ?_
    rintro e w8 ⟨rfl, hb8⟩
    have HB8 := hidden (below_after HB7.out hb8)
    have RS_8 := hidden (RS_7.out.kept hb8)
    clear hb8
    go_wp2_with fail
    refine (SR.out _ _ HB8.out _ _ RS_8.out W5.out ⟨#[]⟩ (by decide)).mono ?_
    rintro e w9 ⟨rfl, hb9⟩
    rw [f3]
    have HB9 := hidden (below_after HB8.out hb9)
    have RS_9 := hidden (RS_8.out.kept hb9)
    clear hb9
    go_wp2_with fail
    refine (HPL.out _ HB9.out).mono ?_
    rintro e w10 ⟨vRQ, rfl, hr10, hb10⟩
    have HB10 := hidden (below_after HB9.out hb10)
    have RQ_10 := hidden hr10.reads
    obtain ⟨aRQ, lRQ, cRQ, rfl⟩ := row_slice hr10
    clear hr10 hb10
    go_wp2_with fail
    refine (NR.out _ _ _ _ RQ_10.out W6.out).mono ?_
    rintro e w11 ⟨rfl, hb11⟩
    rw [f5]
    have HB11 := hidden (below_after HB10.out hb11)
    have RQ_11 := hidden (RQ_10.out.kept hb11)
    clear hb11
    go_wp2_with fail
    refine (NA.out _ HB11.out).mono ?_
    rintro e w12 ⟨rfl, hb12⟩
    have HB12 := hidden (below_after HB11.out hb12)
    clear hb12
    go_wp2_with fail
    refine (knows_calls _ (HTB.out.below HB12.out)).mono ?_
    rintro e w99 ⟨rfl, hb99⟩
    go_wp2
    go_ret
    exact ⟨rfl, below_after HB12.out hb99⟩
  have n0 := hxy
  clear hxy
  exfalso
  cases hx : sayB L v <;> cases hy : sayB M u <;> simp [hx, hy] at n0 n1 n2 n3
namespace lawRxfactJoins
open Go.ChangeShapes Go.WideShapes Go.ChangeAt Go.RowKit Go.Deep
open Go.ChangeMaps (open_string shut_string)

set_option maxRecDepth 100000 in
theorem lifted (os : Os) (started : os.Started) (H : Type) (enc : TypeId × Value → H) :
    ReturnsInHanded {} Tryz.checked os 5 .any (fun w args => (Rows.rxfactJoinsSpec.pre enc Tryz.prog Tryz.f5 Rows.rxfactJoinsRow.domain false w args ∧ laidMetH Tryz.prog [("math/bits.deBruijn64tab", Rows.laid_math_bits_deBruijn64tab)] w) ∧ sizedMet enc Tryz.prog Tryz.f5 (OpenSpec.ofChange Rows.rxfactJoinsSpec) false w args)
      (Rows.rxfactJoinsSpec.post enc Tryz.prog Tryz.f5 false true false false) := by
  refine returnsInHanded_of_change_and (C := Tryz.checked) (X := fun w _ => laidMetH Tryz.prog [("math/bits.deBruijn64tab", Rows.laid_math_bits_deBruijn64tab)] w) (fun _ _ _ hh h => h.of_heap hh) own started (by kernel_rfl) Tryz.func5
    (ChangeSpec.witness_shaped (enc := enc) (C := Tryz.checked) (os := os) (X := fun w _ => laidMetH Tryz.prog [("math/bits.deBruijn64tab", Rows.laid_math_bits_deBruijn64tab)] w) false (World.laidAll Tryz.prog os [("math/bits.deBruijn64tab", Rows.laid_math_bits_deBruijn64tab)]) #[.slice none 0 0, .slice none 0 0, .string ⟨#[]⟩, .string ⟨#[]⟩] 8 (World.laidAll_os _ _ _)
      (World.shaped_of_ZipB (by kernel_rfl) (by kernel_rfl)) (by kernel_rfl) (by kernel_rfl) (by kernel_rfl)
      (by rw [MakeChecks.laidMetH_plain _ _ _ (by kernel_rfl)]; exact laidMet_laidAll _ (by kernel_rfl) (by kernel_rfl))) ?_
  intro W base args ds gs before hval0 hW hcnd _ hL _
  have hval : ∀ (j : Nat) t v, Tryz.f5.params[j]? = some t → args[j]? = some v → Value.okWide Tryz.prog W .any base t v := hval0
  have hW' : DataW.Whole enc Tryz.prog Tryz.f5.params.toList Rows.rxfactJoinsSpec.vars false W args.toList ds gs before := hW
  obtain ⟨p, q, hA0, hV, rfl, hfz, hnd⟩ := hW
  have hA : DataW.TrodAll enc Tryz.prog W 0 (fun _ => true) true Tryz.f5.params.toList args.toList ds p := hA0
  have ht : Tab W := of_laid (by kernel_rfl) hL
  rw [Tryz.params5] at hA hval
  obtain ⟨v0, vs0, d0, ds0, p0, q0, hargs, hd0, hp0, h0, r0⟩ := trodAll_cons hA
  obtain ⟨v1, vs1, d1, ds1, p1, q1, rfl, hd1, hp1, h1, r1⟩ := trodAll_cons r0
  obtain ⟨v2, vs2, d2, ds2, p2, q2, rfl, hd2, hp2, h2, r2⟩ := trodAll_cons r1
  obtain ⟨v3, vs3, d3, ds3, p3, q3, rfl, hd3, hp3, h3, r3⟩ := trodAll_cons r2
  obtain ⟨rfl, _, _⟩ := trodAll_nil r3
  obtain rfl : args = #[v0, v1, v2, v3] := by cases args; simp_all
  obtain ⟨a0, len0, cap0, rfl⟩ := okWide_slice Tryz.underlying22 (hval 0 22 v0 rfl rfl)
  obtain ⟨z0, w0⟩ := open_rx h0
  obtain ⟨a1, len1, cap1, rfl⟩ := okWide_slice Tryz.underlying22 (hval 1 22 v1 rfl rfl)
  obtain ⟨z1, w1⟩ := open_rx h1
  obtain ⟨a2, rfl, _, _, w2⟩ := open_string Tryz.underlying9 (hval 2 9 v2 rfl rfl) h2
  obtain ⟨a3, rfl, _, _, w3⟩ := open_string Tryz.underlying9 (hval 3 9 v3 rfl rfl) h3
  refine (walkJoins a0 len0 cap0 z0 a1 len1 cap1 z1 a2 a3 W w0 w1 w2 w3 ht).mono fun e W' ⟨he, hb⟩ => ⟨_, he, ends_true hW' rfl (by kernel_rfl) ?_ (by kernel_rfl) hb⟩
  intro xs hxs
  match xs, hxs with
  | [_, _, _, _], _ => rfl

theorem proved : Rows.RxfactJoinsSaid :=
  OpenClaim.holds_of_wide 5 Tryz.f5 rfl rfl rfl rfl rfl rfl rfl ⟨rfl, rfl, rfl, rfl, rfl⟩ rfl rfl rfl rfl rfl (by kernel_rfl) Tryz.func5 (by kernel_rfl)
    (of_decide_eq_true (by kernel_rfl)) (by unfold Func.isWrapper; first | (rw [if_pos (by decide +kernel)]; kernel_rfl) | (rw [if_neg (by decide +kernel)]; exact ⟨rfl, rfl⟩))
    (fun os started H enc _ => lifted os started H enc)

/-- the card: the row, and what it lists tied to the program's text -/
theorem card : Rows.RxfactJoinsCardSaid :=
  Claim7.holds_tied_plain_at .later [] [.data] true (true, "caf4bdf57563e5690fd5054733d0bba01abbd8688f1d404e6c089180ab3b60b0") false
    proved (fun _ h => by cases h) (by kernel_rfl) (fun _ h => by cases h) rxfactJoins_row_tie rfl ⟨rfl, rfl⟩ (by kernel_rfl) rfl
    (fun f fn hf hfn => by
      obtain rfl : f = 5 := Option.some.inj ((show Tryz.prog.funcNamed "facsimile/facsimilelaw09.RxfactJoins" = some 5 by kernel_rfl).symm.trans hf) |>.symm
      obtain rfl : fn = Tryz.f5 := (Option.some.inj (Tryz.func5.symm.trans hfn)).symm
      exact ⟨by kernel_rfl, fun j t ht => by
        rw [Tryz.params5] at ht
        have hm : t ∈ [22, 22, 9, 9] := by simpa using Array.mem_of_getElem? ht
        have hall : ([22, 22, 9, 9].all fun u => !Tryz.prog.wantsStandIn u) = true := by kernel_rfl
        exact (show Tryz.prog.wantsStandIn t = false by simpa using List.all_eq_true.1 hall t hm)⟩)
    (by kernel_rfl)

end lawRxfactJoins
end Go.Proofs.YthkboclooplpeaaGreatDoor
