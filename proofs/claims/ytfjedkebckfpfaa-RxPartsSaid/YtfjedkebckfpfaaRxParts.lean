/- 'RxParts' answers true for every two lists of steps: what is made of two expressions is one, its parts begin where they were put, and its height is as said. Conditions: none. -/
import Derived.Test.YtfjedkebckfpfaaRxKnows
import Derived.Test.YtfjedkebckfpfaaRxOpen
namespace Go.Proofs.Ytfjedkebckfpfaa.lawRxParts
open Go.ChangeShapes Go.WideShapes Go.ChangeAt Go.RowKit
open Go.ChangeMaps (open_string shut_string)

/-- two slices that came in, in a literal -/
theorem two_in {C : Nat → Prop} {w W : World} {v u : Value} {L M : List Stp} (h : SlX C w v L) (hu : SlX C w u M) (hC : ∀ b, C b → b < w.heap.size) (hb : Below w.heap.size w W) (g : Nat) (hg : g = W.heap.size) :
    SlXs (fun b => b < (W.alloc (.cells #[v, u] 28)).heap.size) (W.alloc (.cells #[v, u] 28)) (.slice (some ⟨g, 0, none⟩) 2 2) [L, M] := by
  subst hg
  have hs := hb.size
  have hk : ∀ x N, SlX C w x N → SlX (fun b => b < (W.alloc (.cells #[v, u] 28)).heap.size) (W.alloc (.cells #[v, u] 28)) x N := fun x N hx =>
    hx.below fun b hb' => ⟨by have := hC b hb'; simp; omega, (heap_alloc_old W _ (by have := hC b hb'; omega)).trans (hb.block b (hC b hb'))⟩
  refine ⟨_, 2, rfl, Nat.le_refl _, by decide, rfl, fun _ => ⟨W.heap.size, 0, rfl, by simp, fun i hi => ?_⟩⟩
  have hg := heap_alloc_new W (.cells #[v, u] 28)
  rw [Nat.zero_add]
  match i, hi with
  | 0, _ => exact ⟨v, cell_of_row _ _ 0 _ _ _ hg, hk _ _ h⟩
  | 1, _ => exact ⟨u, cell_of_row _ _ 1 _ _ _ hg, hk _ _ hu⟩
theorem RowX.put0 {w : World} {base g n c : Nat} {s : Stp} {r : List Stp} (k : Int) (h : RowX w base (.slice (some ⟨g, 0, none⟩) n c) (s :: r)) :
    RowX (w.setCell ⟨g, 0, none⟩ (.int .i64 k)) base (.slice (some ⟨g, 0, none⟩) n c) (⟨k, s.a, s.b, s.c, s.d⟩ :: r) ∧ (∃ u, w.cell? ⟨g, 0, none⟩ = some u) ∧ w.frozen? ⟨g, 0, none⟩ = false ∧ base ≤ g ∧ n = r.length + 1 := by
  obtain ⟨g', c', e⟩ := Go.Joins.ownsRow_form h (by simp)
  simp only [Value.slice.injEq] at e
  obtain ⟨_, hn, _⟩ := e
  have hn : n = r.length + 1 := by simpa using hn
  subst hn
  refine ⟨?_, ⟨.int .i64 s.k, ?_⟩, World.ownsRow.frozenAt h 0, (World.ownsRow.lt h g rfl).1, rfl⟩
  · have := (World.ownsRow.stored h 0 (.int .i64 k)).1
    simpa [RowX, rxCells, Stp.cells] using this
  · rw [World.ownsRow.cellAt h 0 (by simp)]
    simp [rxCells, Stp.cells]
/-- what Cat makes of two -/
theorem cat_two (L M : List Stp) : catV [L, M] = L ++ M ++ [kStp 3] := by simp [catV, jn, jt]
theorem alt_two (L M : List Stp) : altV [L, M] = L ++ M ++ [kStp 4] := by simp [altV, jn, jt]
theorem few_two {L M : List Stp} (h : fewV [L, M] = true) : L.length + M.length ≤ 900 := by
  unfold fewV at h
  rw [Bool.and_eq_true] at h
  have h2 : capSum [L, M] ≤ 900 := of_decide_eq_true h.2
  simp only [capSum] at h2
  omega
/-- what is known of two expressions put together -/
structure Both (L M P Q : List Stp) (pk p1 p2 : Int) : Prop where
  lenP : P.length = L.length + M.length + 1
  lenQ : Q.length = L.length + M.length + 2
  measL : measV L = (p1, 0)
  measM : measV M = (p2, 0)
  measP : measV P = (pk, 0)
  measQ : L.length + M.length + 2 ≤ 512 → measV Q = (pk, 0)
  begP : begV P ((L.length : Int) + M.length) = 0
  begP2 : begV P ((L.length : Int) + M.length - 1) = L.length
  begP1 : begV P ((L.length : Int) - 1) = 0
  begQ : begV Q ((L.length : Int) + M.length + 1) = 0
  peak : (p2 + 1 ≤ p1 ∧ pk = p1) ∨ (p1 < p2 + 1 ∧ pk = p2 + 1)
  bound : 0 ≤ p1 ∧ p1 ≤ 512 ∧ 0 ≤ p2 ∧ p2 ≤ 512
  neL : 0 < L.length
  neM : 0 < M.length
theorem peak_le : ∀ (a : List Stp) (p h : Int) (_ : Goes a p) (_ : p ≤ h), peak a p h ≤ h + a.length
  | [], p, h, _, _ => by simp [Go.Proofs.Ytfjedkebckfpfaa.peak]
  | s :: r, p, h, ⟨h1, _, h3⟩, hp => by
    have h0 := h1.1
    have := peak_le r (p + (1 - kOps s.k)) (max h (p + (1 - kOps s.k))) h3 (by omega)
    simp only [Go.Proofs.Ytfjedkebckfpfaa.peak, List.length_cons]
    omega
theorem both_of {L M : List Stp} (hl : (measV L).2 = 0) (hm : (measV M).2 = 0) (h : L.length + M.length < 512) : ∃ pk p1 p2, Both L M (L ++ M ++ [kStp 3]) (L ++ M ++ [kStp 4] ++ [kStp 5]) pk p1 p2 := by
  obtain ⟨l1, EL⟩ := meas_expr hl
  obtain ⟨m1, EM⟩ := meas_expr hm
  have EP := expr_two EL EM (k := 3) (.inl rfl)
  have EA := expr_two EL EM (k := 4) (.inr rfl)
  have EQ := expr_one EA (k := 5) (.inl rfl)
  have lp : (L ++ M ++ [kStp 3]).length = L.length + M.length + 1 := by simp; omega
  have lq : (L ++ M ++ [kStp 4] ++ [kStp 5]).length = L.length + M.length + 2 := by simp; omega
  have b1 := peak_ge1 EL
  have b2 := peak_ge1 EM
  have c1 := peak_le L 0 0 EL.1 (Int.le_refl _)
  have c2 := peak_le M 0 0 EM.1 (Int.le_refl _)
  refine ⟨_, _, _, lp, lq, expr_meas EL l1, expr_meas EM m1, expr_meas EP (by omega), fun hq => ?_, ?_, ?_, ?_, ?_, ?_, ⟨by omega, by omega, by omega, by omega⟩, expr_ne EL, expr_ne EM⟩
  · rw [expr_meas EQ (by omega), peak_one EA (.inl rfl), peak_two EL EM (.inr rfl), peak_two EL EM (.inl rfl)]
  · have := beg_whole EP
    rw [lp] at this
    rw [← this]
    congr 1
    omega
  · have := beg_part (x := L) (z := [kStp 3]) EM
    exact this
  · have := beg_part (x := []) (z := M ++ [kStp 3]) EL
    rw [List.nil_append, ← List.append_assoc] at this
    simpa using this
  · have := beg_whole EQ
    rw [lq] at this
    rw [← this]
    congr 1
    omega
  · rw [peak_two EL EM (.inl rfl)]
    omega

/-- what stands of the arguments in a later world -/
theorem later_slX {w W : World} {v : Value} {L : List Stp} (h : SlX (fun b => b < w.heap.size) w v L) (hb : Below w.heap.size w W) : SlX (fun b => b < W.heap.size) W v L :=
  h.below fun b hb' => ⟨by have := hb.size; omega, hb.block b hb'⟩
set_option maxHeartbeats 8000000 in
set_option maxRecDepth 100000 in
theorem walk (a0 : Option Addr) (la ca : Nat) (L : List Stp) (b0 : Option Addr) (lb cb : Nat) (M : List Stp) (w : World)
    (hA : SlX (fun b => b < w.heap.size) w (.slice a0 la ca) L ∧ ∀ s ∈ L, s.fit) (hB : SlX (fun b => b < w.heap.size) w (.slice b0 lb cb) M ∧ ∀ s ∈ M, s.fit) :
    Calls Try.prog 4 #[.slice a0 la ca, .slice b0 lb cb] w fun e w' => e = .returned (.bool true) ∧ Below w.heap.size w w' := by
  obtain ⟨hA, _⟩ := hA
  obtain ⟨hB, _⟩ := hB
  have HA := hidden (fun W (hb : Below w.heap.size w W) => later_slX hA hb)
  have HB := hidden (fun W (hb : Below w.heap.size w W) => later_slX hB hb)
  have HF := hidden (fun (W : World) (hb : Below w.heap.size w W) g hg => two_in hA hB (fun b hb => hb) hb g hg)
  have hla : la = L.length := by
    obtain ⟨_, _, e, _⟩ := hA
    simp at e
    exact e.2.1
  have hlb : lb = M.length := by
    obtain ⟨_, _, e, _⟩ := hB
    simp at e
    exact e.2.1
  have HLA := hidden hla
  have HLB := hidden hlb
  have HFW := hidden (few_calls (w.alloc (.cells #[.slice a0 la ca, .slice b0 lb cb] 28)) _ _ (HF.out w (Below.refl _ _) _ rfl))
  have hblk := (Below.refl w.heap.size w).alloc (Nat.le_refl _) (.cells #[.slice a0 la ca, .slice b0 lb cb] 28)
  have HK := hidden hblk
  clear hA hB hblk
  by_cases p0 : fewV [L, M] = false
  · rw [p0] at HFW
    clear hla hlb p0
    go_enter Try.func4, Try.ntmps4
    go_wp2_with fail
    refine HFW.out.mono ?_
    rintro e w1 ⟨rfl, rfl⟩
    go_wp2_with fail
    refine (knows_calls _).mono ?_
    rintro e w1 ⟨rfl, hb1⟩
    go_wp2
    go_ret
    exact ⟨rfl, below_after HK.out hb1⟩
  · have p1 : fewV [L, M] = true := by simpa using p0
    have hsum := few_two p1
    rw [p1] at HFW
    clear p0 p1
    rw [← hla, ← hlb] at hsum
    clear hla hlb
    by_cases q1 : 512 ≤ la + lb
    · have d1 : decide ((512 : Int) ≤ (la : Int) + lb) = true := decide_eq_true (by omega)
      go_enter Try.func4, Try.ntmps4
      go_wp2_with fail
      refine HFW.out.mono ?_
      rintro e w1 ⟨rfl, rfl⟩
      go_wp2_with fail
      refine (knows_calls _).mono ?_
      rintro e w1 ⟨rfl, hb1⟩
      go_wp2
      go_ret
      exact ⟨rfl, below_after HK.out hb1⟩
    · have d1 : decide ((512 : Int) ≤ (la : Int) + lb) = false := decide_eq_false (by omega)
      by_cases q2 : (measV L).2 = 0
      case neg =>
        generalize hr : (measV L).2 = r at q2
        have HR := hidden hr
        have d2 : (r == 0) = false := by simp [q2]
        have d3 : (r != 0) = true := by simp [q2]
        clear hr q2
        go_enter Try.func4, Try.ntmps4
        go_wp2_with fail
        refine HFW.out.mono ?_
        rintro e w1 ⟨rfl, rfl⟩
        go_wp2_with fail
        refine (check_slX (HA.out _ HK.out) fun b hb => hb).mono ?_
        rintro e w1 ⟨rfl, hb1⟩
        rw [HR.out]
        go_wp2_with fail
        refine (knows_calls _).mono ?_
        rintro e w2 ⟨rfl, hb2⟩
        go_wp2
        go_ret
        exact ⟨rfl, below_after (below_after HK.out hb1) hb2⟩
      case pos =>
        by_cases q3 : (measV M).2 = 0
        case neg =>
          generalize hr : (measV M).2 = r at q3
          have HR := hidden hr
          have HQ := hidden q2
          have d2 : (r == 0) = false := by simp [q3]
          have d3 : (r != 0) = true := by simp [q3]
          clear hr q3 q2
          go_enter Try.func4, Try.ntmps4
          go_wp2_with fail
          refine HFW.out.mono ?_
          rintro e w1 ⟨rfl, rfl⟩
          go_wp2_with fail
          refine (check_slX (HA.out _ HK.out) fun b hb => hb).mono ?_
          rintro e w1 ⟨rfl, hb1⟩
          rw [HQ.out]
          have HK1 := hidden (below_after HK.out hb1)
          clear hb1
          go_wp2_with fail
          refine (check_slX (HB.out _ HK1.out) fun b hb => hb).mono ?_
          rintro e w2 ⟨rfl, hb2⟩
          rw [HR.out]
          go_wp2_with fail
          refine (knows_calls _).mono ?_
          rintro e w3 ⟨rfl, hb3⟩
          go_wp2
          go_ret
          exact ⟨rfl, below_after (below_after HK1.out hb2) hb3⟩
        case pos =>
          obtain ⟨pk, p1, p2, hBo⟩ := both_of q2 q3 (by have := HLA.out; have := HLB.out; omega)
          have HC := hidden (cat_two L M)
          have HD := hidden (alt_two L M)
          have HS := hidden (List.append_assoc (L ++ M) [kStp 4] [kStp 5])
          have HQ2 := hidden q2
          have HQ3 := hidden q3
          clear q2 q3
          generalize L ++ M ++ [kStp 3] = P at hBo HC
          obtain ⟨Q, hQ⟩ : ∃ Q, Q = L ++ M ++ [kStp 4] ++ [kStp 5] := ⟨_, rfl⟩
          rw [← hQ] at hBo
          have HQQ := hidden hQ
          clear hQ
          obtain ⟨n, hn⟩ : ∃ n, n = P.length := ⟨_, rfl⟩
          obtain ⟨n2, hn2⟩ : ∃ n2, n2 = Q.length := ⟨_, rfl⟩
          have e1 : n = la + lb + 1 := by rw [hn, hBo.lenP, ← HLA.out, ← HLB.out]
          have e2 : n2 = la + lb + 2 := by rw [hn2, hBo.lenQ, ← HLA.out, ← HLB.out]
          have b1 : n ≤ 512 := by omega
          have b2 : 3 ≤ n := by have := hBo.neL; have := hBo.neM; have := HLA.out; have := HLB.out; omega
          have b3 : n2 ≤ 513 := by omega
          have b4 : 4 ≤ n2 := by omega
          have b5 : 1 ≤ la := by have := hBo.neL; have := HLA.out; omega
          have E1 : Hid (begV P ((n : Int) - 1) = 0) := hidden (by rw [show (n : Int) - 1 = (L.length : Int) + M.length by have := HLA.out; have := HLB.out; omega]; exact hBo.begP)
          have E2 : Hid (begV P ((n : Int) - 2) = la) := hidden (by rw [show (n : Int) - 2 = (L.length : Int) + M.length - 1 by have := HLA.out; have := HLB.out; omega, hBo.begP2, HLA.out])
          have E3 : Hid (begV P ((la : Int) - 1) = 0) := hidden (by rw [HLA.out]; exact hBo.begP1)
          have E4 : Hid (begV Q ((n2 : Int) - 1) = 0) := hidden (by rw [show (n2 : Int) - 1 = (L.length : Int) + M.length + 1 by have := HLA.out; have := HLB.out; omega]; exact hBo.begQ)
          have HN := hidden hn
          have HN2 := hidden hn2
          have HBo := hidden hBo
          clear hBo hn hn2 e1 e2
          go_enter Try.func4, Try.ntmps4
          go_wp2_with fail
          refine HFW.out.mono ?_
          rintro e w1 ⟨rfl, rfl⟩
          go_wp2_with fail
          refine (check_slX (HA.out _ HK.out) fun b hb => hb).mono ?_
          rintro e w1 ⟨rfl, hb1⟩
          rw [HQ2.out]
          have HK1 := hidden (below_after HK.out hb1)
          clear hb1
          go_wp2_with fail
          refine (check_slX (HB.out _ HK1.out) fun b hb => hb).mono ?_
          rintro e w2 ⟨rfl, hb2⟩
          rw [HQ3.out]
          have HK2 := hidden (below_after HK1.out hb2)
          clear hb2
          go_wp2_with fail
          refine (cat_calls _ _ _ (HF.out _ HK2.out _ rfl) (fun b hb => hb) (by rw [HC.out, ← HN.out]; omega)).mono ?_
          rintro e w3 ⟨v, rfl, hr, hb3⟩
          rw [HC.out] at hr
          obtain ⟨g, c, rfl⟩ := Go.Joins.ownsRow_form hr (by rw [← HN.out]; omega)
          rw [← HN.out]
          have HK3 := hidden (below_after (HK2.out.alloc HK2.out.size _) hb3)
          have HP3 := hidden (hr.lower (HK2.out.alloc HK2.out.size (.cells #[.slice a0 la ca, .slice b0 lb cb] 28)).size)
          rw [← HN.out] at HP3
          clear hr hb3
          go_wp2_with fail
          refine (alt_calls _ _ _ (HF.out _ HK3.out _ rfl) (fun b hb => hb) (by rw [HD.out]; have := HLA.out; have := HLB.out; simp; omega)).mono ?_
          rintro e w4 ⟨v, rfl, hr, hb4⟩
          rw [HD.out] at hr
          have HB4 := hidden (below_after ((Below.refl w3.heap.size w3).alloc (Nat.le_refl _) _) hb4)
          have HV := hidden hr.reads
          obtain ⟨a4, l4, c4, rfl⟩ := row_slice hr
          clear hr hb4
          go_wp2_with fail
          refine (star_calls _ _ _ HV.out (fun b hb => hb.2) (by have := HLA.out; have := HLB.out; simp; omega)).mono ?_
          rintro e w5 ⟨v, rfl, hr, hb5⟩
          rw [← HQQ.out] at hr
          obtain ⟨g2, c2, rfl⟩ := Go.Joins.ownsRow_form hr (by rw [← HN2.out]; omega)
          rw [← HN2.out]
          have HB5 := hidden (below_after HB4.out hb5)
          have HK5 := hidden (below_after HK3.out HB5.out)
          have HP5 := hidden (HP3.out.below HB5.out)
          have HQ5 := hidden (hr.lower (Nat.zero_le _))
          rw [← HN2.out] at HQ5
          clear hr hb5 HV
          have hPn : Hid (P.length ≤ 4294967296) := hidden (by rw [← HN.out]; omega)
          have hQn : Hid (Q.length ≤ 4294967296) := hidden (by rw [← HN2.out]; omega)
          go_wp2_with fail
          refine (check_slX HP5.out.reads fun b hb => hb.2).mono ?_
          rintro e w6 ⟨rfl, hb6⟩
          rw [HBo.out.measP]
          have HK6 := hidden (below_after HK5.out hb6)
          have HP6 := hidden (HP5.out.below hb6)
          have HQ6 := hidden (HQ5.out.below hb6)
          clear hb6
          go_wp2_with fail
          refine (begin_slX _ HP6.out.reads hPn.out).mono ?_
          rintro e w7 ⟨rfl, rfl⟩
          rw [E1.out]
          go_wp2_with fail
          refine (begin_slX _ HP6.out.reads hPn.out).mono ?_
          rintro e w7 ⟨rfl, rfl⟩
          rw [E2.out]
          go_wp2_with fail
          refine (begin_slX _ HP6.out.reads hPn.out).mono ?_
          rintro e w7 ⟨rfl, rfl⟩
          rw [E3.out]
          obtain ⟨s, r, rfl⟩ : ∃ s r, P = s :: r := by
            cases P with
            | nil => have := HN.out; simp at this; omega
            | cons s r => exact ⟨s, r, rfl⟩
          have hrl : Hid (r.length < 512) := hidden (by have := HN.out; simp at this; omega)
          by_cases q4 : n2 ≤ 512
          case' pos =>
            have d4 : decide ((n2 : Int) ≤ 512) = true := decide_eq_true (by omega)
            have hMQ := hidden (HBo.out.measQ (by have := HN2.out; have := HBo.out.lenQ; omega))
            go_wp2_with fail
            refine (check_slX HQ6.out.reads fun b hb => hb.2).mono ?_
            rintro e w7 ⟨rfl, hb7⟩
            rw [hMQ.out]
            have HK7 := hidden (below_after HK6.out hb7)
            have HP7 := hidden (HP6.out.below hb7)
            have HQ7 := hidden (HQ6.out.below hb7)
            clear hb7
            go_wp2_with fail
            refine (begin_slX _ HQ7.out.reads hQn.out).mono ?_
            rintro e w8 ⟨rfl, rfl⟩
            rw [E4.out]
            go_wp2_with fail
            refine (high_slX HQ7.out.reads fun b hb => hb.2).mono ?_
            rintro e w8 ⟨rfl, hb8⟩
            rw [hMQ.out]
            have HK8 := hidden (below_after HK7.out hb8)
            have HP8 := hidden (HP7.out.below hb8)
            clear hb8
            go_wp2_with fail
            refine (high_slX HP8.out.reads fun b hb => hb.2).mono ?_
            rintro e w9 ⟨rfl, hb9⟩
            rw [HBo.out.measP]
            have HK9 := hidden (below_after HK8.out hb9)
            have HP9 := hidden (HP8.out.below hb9)
            clear hb9
          case' neg =>
            have d4 : decide ((n2 : Int) ≤ 512) = false := decide_eq_false (by omega)
            obtain ⟨w9, rfl⟩ : ∃ w9, w9 = w6 := ⟨_, rfl⟩
            have HK9 := hidden HK6.out
            have HP9 := hidden HP6.out
          all_goals
            obtain ⟨hput, ⟨u, hu⟩, hfz, hgB, hnr⟩ := RowX.put0 0 HP9.out
            clear hnr
            have HPP := hidden hput
            have HKK := hidden (HK9.out.setCell (p := ⟨g, 0, none⟩) hgB (.int .i64 0))
            clear hput
            go_wp2_with fail
            refine (cat_calls _ _ _ (HF.out _ HKK.out w9.heap.size (by simp [World.setCell])) (fun b hb => hb) (by rw [HC.out, ← HN.out]; omega)).mono ?_
            rintro e w10 ⟨v, rfl, hr, hb10⟩
            rw [HC.out] at hr
            have HBA := hidden ((Below.refl _ (w9.setCell ⟨g, 0, none⟩ (.int .i64 0))).alloc (Nat.le_refl _) (.cells #[.slice a0 la ca, .slice b0 lb cb] 28))
            have HB10 := hidden (below_after HBA.out hb10)
            have HK10 := hidden (below_after HKK.out HB10.out)
            have HP10 := hidden (HPP.out.below HB10.out)
            have HV := hidden hr.reads
            obtain ⟨a4', l4', c4', rfl⟩ := row_slice hr
            clear hr hb10
            go_wp2_with fail
            refine (high_slX HV.out fun b hb => hb.2).mono ?_
            rintro e w11 ⟨rfl, hb11⟩
            rw [HBo.out.measP]
            have HK11 := hidden (below_after HK10.out hb11)
            have HP11 := hidden (HP10.out.below hb11)
            clear hb11
            go_wp2_with fail
            refine (high_slX (HA.out _ HK11.out) fun b hb => hb).mono ?_
            rintro e w12 ⟨rfl, hb12⟩
            rw [HBo.out.measL]
            have HK12 := hidden (below_after HK11.out hb12)
            have HP12 := hidden (HP11.out.below hb12)
            clear hb12
            go_wp2_with fail
            refine (high_slX (HB.out _ HK12.out) fun b hb => hb).mono ?_
            rintro e w13 ⟨rfl, hb13⟩
            rw [HBo.out.measM]
            have HK13 := hidden (below_after HK12.out hb13)
            have HP13 := hidden (HP12.out.below hb13)
            clear hb13
            obtain ⟨x1, x2, x3, x4⟩ := HBo.out.bound
            rcases HBo.out.peak with ⟨y1, y2⟩ | ⟨y1, y2⟩
            all_goals
              subst y2
              go_wp2_with fail
              refine (check_slX (HA.out _ HK13.out) fun b hb => hb).mono ?_
              rintro e w14 ⟨rfl, hb14⟩
              rw [HQ2.out]
              have HK14 := hidden (below_after HK13.out hb14)
              have HP14 := hidden (HP13.out.below hb14)
              clear hb14
              go_wp2_with fail
              refine (check_slX HP14.out.reads fun b hb => hb.2).mono ?_
              rintro e w15 ⟨rfl, hb15⟩
              rw [meas_bad (show kOps 0 < 0 by decide) hrl.out]
              have HK15 := hidden (below_after HK14.out hb15)
              clear hb15
              go_wp2_with fail
              refine (knows_calls _).mono ?_
              rintro e w16 ⟨rfl, hb16⟩
              go_wp2
              go_ret
              exact ⟨rfl, below_after HK15.out hb16⟩

set_option maxRecDepth 100000 in
theorem lifted (os : Os) (started : os.Started) (H : Type) (enc : TypeId × Value → H) :
    ReturnsInHanded {} Try.checked os 4 .any (Rows.rxPartsSpec.pre6 enc Try.prog Try.f4 Rows.rxPartsRow.domain false) (Rows.rxPartsSpec.post enc Try.prog Try.f4 false true false false) := by
  refine returnsInHanded_of_change (C := Try.checked) own started (by kernel_rfl) Try.func4
    (ChangeSpec.witness6 (enc := enc) (C := Try.checked) false ⟨#[], #[.slice none 0 0, .slice none 0 0], []⟩ 8 (by kernel_rfl) (by kernel_rfl) (by kernel_rfl) (by kernel_rfl)) ?_
  intro W base args ds gs before hval0 hW hcnd _
  have hval : ∀ (j : Nat) t v, Try.f4.params[j]? = some t → args[j]? = some v → Value.okWide Try.prog W .any base t v := hval0
  have hW' : DataW.Whole enc Try.prog Try.f4.params.toList Rows.rxPartsSpec.vars false W args.toList ds gs before := hW
  obtain ⟨p, q, hA0, hV, rfl, hfz, hnd⟩ := hW
  have hA : DataW.TrodAll enc Try.prog W 0 (fun _ => true) true Try.f4.params.toList args.toList ds p := hA0
  have hlt : ∀ x ∈ p, x.block < W.heap.size := fun x hx => hW'.lt x (List.mem_append_left _ hx)
  rw [Try.params4] at hA hval
  obtain ⟨v0, vs0, d0, ds0, p0, q0, hargs, hd0, hp0, h0, r0⟩ := trodAll_cons hA
  obtain ⟨v1, vs1, d1, ds1, p1, q1, rfl, hd1, hp1, h1, r1⟩ := trodAll_cons r0
  obtain ⟨rfl, _, _⟩ := trodAll_nil r1
  obtain rfl : args = #[v0, v1] := by cases args; simp_all
  obtain ⟨a0, len0, cap0, rfl⟩ := okWide_slice Try.underlying28 (hval 0 28 v0 rfl rfl)
  obtain ⟨z0, w0⟩ := open_rx h0
  obtain ⟨a1, len1, cap1, rfl⟩ := okWide_slice Try.underlying28 (hval 1 28 v1 rfl rfl)
  obtain ⟨z1, w1⟩ := open_rx h1
  refine (walk a0 len0 cap0 z0 a1 len1 cap1 z1 W w0 w1).mono fun e W' ⟨he, hb⟩ => ⟨_, he, ends_true hW' rfl (by kernel_rfl) ?_ (by kernel_rfl) hb⟩
  intro xs hxs
  match xs, hxs with
  | [_, _], _ => rfl

theorem proved : Rows.RxPartsSaid :=
  OpenClaim.holds_of_wide 4 Try.f4 rfl rfl rfl rfl rfl rfl rfl ⟨rfl, rfl, rfl, rfl, rfl⟩ rfl rfl rfl rfl rfl (by kernel_rfl) Try.func4 (by kernel_rfl)
    (of_decide_eq_true (by kernel_rfl)) (by unfold Func.isWrapper; first | (rw [if_pos (by decide +kernel)]; kernel_rfl) | (rw [if_neg (by decide +kernel)]; exact ⟨rfl, rfl⟩))
    (fun os started H enc _ => lifted os started H enc)

end Go.Proofs.Ytfjedkebckfpfaa.lawRxParts
