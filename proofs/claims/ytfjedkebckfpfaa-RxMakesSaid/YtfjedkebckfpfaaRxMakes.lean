/- 'RxMakes' answers true for every list of lists of steps, every set and every text: Cat, Alt, Star, Plus, Opt, Set, Empty and Text make what the reference makes. Conditions: none. -/
import Derived.Test.YtfjedkebckfpfaaRxKnows
import Derived.Test.YtfjedkebckfpfaaRxOpen
namespace Go.Proofs.Ytfjedkebckfpfaa.lawRxMakes
open Go.ChangeShapes Go.WideShapes Go.ChangeAt Go.RowKit
open Go.ChangeMaps (open_string shut_string)
attribute [local go_sem] evalR_tmp evalR_const evalR_global evalR_func

def RX (L : List Stp) (v : Value) (w : World) : Prop := SlX (fun b => b < w.heap.size) w v L
theorem slX_below {w w' : World} {v : Value} {L : List Stp} (h : SlX (fun b => b < w.heap.size) w v L) (hb : Below w.heap.size w w') : SlX (fun b => b < w'.heap.size) w' v L :=
  h.below fun b hb' => ⟨Nat.lt_of_lt_of_le hb' hb.size, hb.block b hb'⟩
theorem slXs_below {w w' : World} {v : Value} {LL : List (List Stp)} (h : SlXs (fun b => b < w.heap.size) w v LL) (hb : Below w.heap.size w w') : SlXs (fun b => b < w'.heap.size) w' v LL :=
  h.below fun b hb' => ⟨Nat.lt_of_lt_of_le hb' hb.size, hb.block b hb'⟩
theorem rx_mono (L : List Stp) : ∀ v w w', RX L v w → Below w.heap.size w w' → RX L v w' := fun _ _ _ h hb => slX_below h hb
theorem rx_row {w : World} {base : Nat} {v : Value} {L : List Stp} (h : RowX w base v L) : RX L v w := SlX.below h.reads fun _ hb => ⟨hb.2, rfl⟩
theorem same_true {L : List Stp} {v v' : Value} {w : World} (h : RX L v w) (h' : RX L v' w) :
    Calls Try.prog 7 #[v, v'] w fun e w' => e = .returned (.bool true) ∧ Below w.heap.size w w' := by
  have := same_slX h h'
  rwa [sameX_yes] at this
/-- block B is an array of four numbers -/
def FourAt (w : World) (B : Nat) (a b c d : Int) : Prop := w.heap[B]? = some (.cells #[.int .u64 a, .int .u64 b, .int .u64 c, .int .u64 d] 25 (0, 0))
theorem FourAt.facts {w : World} {B : Nat} {a b c d : Int} (h : FourAt w B a b c d) : w.cell? ⟨B, 0, none⟩ = some (.int .u64 a) ∧ w.cell? ⟨B, 1, none⟩ = some (.int .u64 b) ∧ w.cell? ⟨B, 2, none⟩ = some (.int .u64 c) ∧ w.cell? ⟨B, 3, none⟩ = some (.int .u64 d) :=
  ⟨cell_of_row w B 0 _ _ _ h, cell_of_row w B 1 _ _ _ h, cell_of_row w B 2 _ _ _ h, cell_of_row w B 3 _ _ _ h⟩
/-- what stays while the last answer is reckoned -/
def WJ (w0 : World) (v0 : Value) (LL : List (List Stp)) (v1 : Value) (one : List Stp) (a b c d : Int) (w : World) : Prop :=
  SlXs (fun b => b < w.heap.size) w v0 LL ∧ SlX (fun b => b < w.heap.size) w v1 one ∧ FourAt w w0.heap.size a b c d ∧ Below w0.heap.size w0 w
theorem WJm {w0 w w' : World} {v0 v1 : Value} {LL : List (List Stp)} {one : List Stp} {a b c d : Int} (h : WJ w0 v0 LL v1 one a b c d w) (hb : Below w.heap.size w w') : WJ w0 v0 LL v1 one a b c d w' := by
  obtain ⟨h1, h2, h3, h4⟩ := h
  exact ⟨slXs_below h1 hb, slX_below h2 hb, (hb.block _ (Array.getElem?_eq_some_iff.1 h3).1).trans h3, below_then h4 h4.size hb⟩
def L (v0 : Value) (LL : List (List Stp)) (v1 : Value) (one : List Stp) (a b c d : Int) (t : ByteArray) : List (Value → World → Prop) := [
  Is (v0), RX (catV LL), Is (v0), RX (catV LL), isTrue, isTrue, Is (v0), RX (altV LL), Is (v0), RX (altV LL), isTrue, isTrue, isTrue, Is (v1), RX (one ++ [kStp 5]), Is (v1), RX (one ++ [kStp 5]), isTrue, isTrue, isTrue, Is (v1), RX (one ++ [kStp 6]), Is (v1), RX (one ++ [kStp 6]), isTrue, isTrue, isTrue, Is (v1), RX (one ++ [kStp 7]), Is (v1), RX (one ++ [kStp 7]), isTrue, isTrue, isTrue, Is (.agg #[.int .u64 a, .int .u64 b, .int .u64 c, .int .u64 d]), RX ([⟨1, a, b, c, d⟩]), Is (.agg #[.int .u64 a, .int .u64 b, .int .u64 c, .int .u64 d]), RX ([⟨1, a, b, c, d⟩]), isTrue, isTrue, isTrue, RX ([kStp 2]), RX ([kStp 2]), isTrue, isTrue, isTrue, Is (.string t), RX (textV t), Is (.string t), RX (textV t), isTrue, isTrue, isTrue, isTrue, isTrue, isTrue]
theorem fewV_ct {LL : List (List Stp)} (h : fewV LL = true) : LL.length ≤ 40 ∧ (ct LL).length ≤ 900 := by
  unfold fewV at h
  rw [Bool.and_eq_true] at h
  have h1 := of_decide_eq_true h.1
  have h2 := of_decide_eq_true h.2
  have := capSum_ct LL h2
  exact ⟨h1, by omega⟩

set_option maxHeartbeats 8000000 in
set_option maxRecDepth 100000 in
theorem walk (a0 : Option Addr) (len0 cap0 : Nat) (LL : List (List Stp)) (a b c d : Int) (t : ByteArray) (w : World)
    (hA : SlXs (fun b => b < w.heap.size) w (.slice a0 len0 cap0) LL ∧ ∀ L ∈ LL, ∀ s ∈ L, s.fit) (_ : (0 ≤ a ∧ a ≤ 18446744073709551615) ∧ (0 ≤ b ∧ b ≤ 18446744073709551615) ∧ (0 ≤ c ∧ c ≤ 18446744073709551615) ∧ (0 ≤ d ∧ d ≤ 18446744073709551615)) (ht : t.size ≤ maxLen) :
    Calls Try.prog 3 #[.slice a0 len0 cap0, .agg #[.int .u64 a, .int .u64 b, .int .u64 c, .int .u64 d], .string t] w fun e w' => e = .returned (.bool true) ∧ Below w.heap.size w w' := by
  obtain ⟨hA, _⟩ := hA
  unfold maxLen at ht
  have hbox := (Below.refl w.heap.size w).alloc (Nat.le_refl _) (.cells #[.int .u64 a, .int .u64 b, .int .u64 c, .int .u64 d] 25)
  have hA1 := slXs_below hA hbox
  have HF := hidden (few_calls _ _ LL hA1)
  have HK := hidden hbox
  by_cases p0 : fewV LL = false
  · rw [p0] at HF
    clear p0 hA hA1 hbox
    go_enter Try.func3, Try.ntmps3
    go_wp2_with fail
    refine HF.out.mono ?_
    rintro e w1 ⟨rfl, rfl⟩
    go_wp2_with fail
    refine (knows_calls _).mono ?_
    rintro e w1 ⟨rfl, hb1⟩
    go_wp2
    go_ret
    exact ⟨rfl, below_then HK.out HK.out.size hb1⟩
  · have p1 : fewV LL = true := by simpa using p0
    rw [p1] at HF
    by_cases p2 : 300 < t.size
    · clear p0 hA hA1 hbox
      have d1 : decide ((300 : Int) < t.size) = true := decide_eq_true (by omega)
      go_enter Try.func3, Try.ntmps3
      go_wp2_with fail
      refine HF.out.mono ?_
      rintro e w1 ⟨rfl, rfl⟩
      go_wp2_with fail
      refine (knows_calls _).mono ?_
      rintro e w1 ⟨rfl, hb1⟩
      go_wp2
      go_ret
      exact ⟨rfl, below_then HK.out HK.out.size hb1⟩
    · obtain ⟨g1, g2⟩ := fewV_ct p1
      have c1 := cat_len LL
      have c2 := alt_len LL
      have q1 : (catV LL).length ≤ 1000000 := by omega
      have q2 : (altV LL).length ≤ 1000000 := by omega
      have q4 : t.size ≤ 100000 := by omega
      have d1 : decide ((300 : Int) < t.size) = false := decide_eq_false (by omega)
      have hlen : len0 = LL.length := by
        obtain ⟨_, _, e, _⟩ := hA
        simp at e
        exact e.2.1
      have hbox2 := hbox.alloc hbox.size (.cells #[] 44)
      have hstep := (Below.refl (w.alloc (.cells #[.int .u64 a, .int .u64 b, .int .u64 c, .int .u64 d] 25)).heap.size (w.alloc (.cells #[.int .u64 a, .int .u64 b, .int .u64 c, .int .u64 d] 25))).alloc (Nat.le_refl _) (.cells #[] 44)
      have hA2 := slXs_below hA1 hstep
      have hfour : FourAt (w.alloc (.cells #[.int .u64 a, .int .u64 b, .int .u64 c, .int .u64 d] 25)) w.heap.size a b c d := heap_alloc_new w _
      have hfour2 : FourAt ((w.alloc (.cells #[.int .u64 a, .int .u64 b, .int .u64 c, .int .u64 d] 25)).alloc (.cells #[] 44)) w.heap.size a b c d := (heap_alloc_old _ _ (by simp)).trans hfour
      have hcase : ∃ (v1 : Value) (one : List Stp), SlX (fun z => z < ((w.alloc (.cells #[.int .u64 a, .int .u64 b, .int .u64 c, .int .u64 d] 25)).alloc (.cells #[] 44)).heap.size) ((w.alloc (.cells #[.int .u64 a, .int .u64 b, .int .u64 c, .int .u64 d] 25)).alloc (.cells #[] 44)) v1 one ∧ one.length ≤ 900000 ∧
          ((len0 = 0 ∧ v1 = .slice (some ⟨w.heap.size + 1, 0, none⟩) 0 0) ∨ (0 < len0 ∧ ∃ bk off, a0 = some ⟨bk, off, none⟩ ∧ ((w.alloc (.cells #[.int .u64 a, .int .u64 b, .int .u64 c, .int .u64 d] 25)).alloc (.cells #[] 44)).cell? ⟨bk, off, none⟩ = some v1)) := by
        rcases LL with _ | ⟨x, R⟩
        · exact ⟨_, [], ⟨some ⟨w.heap.size + 1, 0, none⟩, 0, rfl, Nat.le_refl _, by decide, (fun e => by cases e), rfl, fun h => absurd h (by simp)⟩, by simp, .inl ⟨by simpa using hlen, rfl⟩⟩
        · obtain ⟨aa, cc, e, h1, _, hS⟩ := hA2
          simp only [Value.slice.injEq] at e
          obtain ⟨rfl, _, _⟩ := e
          obtain ⟨bk, off, rfl, _, hc⟩ := hS.2 (by simp)
          obtain ⟨v1, hv, hx⟩ := hc 0 (by simp)
          simp only [ct, List.length_append] at g2
          exact ⟨v1, x, hx, by omega, .inr ⟨by rw [hlen]; simp, bk, off, rfl, hv⟩⟩
      obtain ⟨v1, one, h1, q3, hcase⟩ := hcase
      have HW0 : Hid (WJ w (.slice a0 len0 cap0) LL v1 one a b c d ((w.alloc (.cells #[.int .u64 a, .int .u64 b, .int .u64 c, .int .u64 d] 25)).alloc (.cells #[] 44))) := hidden ⟨hA2, h1, hfour2, hbox2⟩
      clear c1 c2 p0 p1 p2 hA hA1 hA2 hbox hbox2 hstep hfour hfour2 hlen g1 g2 h1
      rcases hcase with ⟨h0, hv1⟩ | ⟨h0, bk, off, rfl, hv1⟩
      case' inl =>
        have d2 : decide ((0 : Int) < len0) = false := decide_eq_false (by omega)
        have d3 : decide (0 < len0) = false := decide_eq_false (by omega)
        have HV1 := hidden hv1
        clear hv1 h0
        go_enter Try.func3, Try.ntmps3
        go_wp2_with fail
        refine HF.out.mono ?_
        rintro e w1 ⟨rfl, rfl⟩
        go_wp2
        rw [← HV1.out]
      case' inr =>
        have d2 : decide ((0 : Int) < len0) = true := decide_eq_true (by omega)
        have d3 : decide (0 < len0) = true := decide_eq_true h0
        obtain ⟨a0, ha0⟩ : ∃ a0, a0 = (some ⟨bk, off, none⟩ : Option Addr) := ⟨_, rfl⟩
        rw [← ha0] at HW0
        have HA0 := hidden ha0
        clear ha0
        go_enter Try.func3, Try.ntmps3
        go_wp2_with fail
        refine HF.out.mono ?_
        rintro e w1 ⟨rfl, rfl⟩
        go_wp2
        rw [← HA0.out]
      all_goals
        refine wp_region_steps (typ (L (.slice a0 len0 cap0) LL v1 one a b c d t)) (WJ w (.slice a0 len0 cap0) LL v1 one a b c d) (by kernel_rfl) (by kernel_rfl) (by kernel_rfl) (by kernel_rfl) ?mono ?start [5, 12, 19, 26, 33, 40, 45, 52] (by kernel_rfl) ?guards ?step ?fin
        case mono =>
          refine typ_mono ?_
          simp only [L, List.forall_mem_cons]
          repeat' (first | exact is_mono _ | exact rx_mono _ | (intro p hp; cases hp; done) | refine And.intro ?_ ?_)
        case start => exact WJm HW0.out (Below.refl _ _).drew
        case guards =>
          intro g hg v w h
          simp at hg
          rcases hg with rfl | rfl | rfl | rfl | rfl | rfl | rfl | rfl <;> exact h
        case fin =>
          intro a w1 hs hv hW
          rename_i Q' K hK
          refine hK a w1 ?_
          have h6 : a.tmps.getD 6 undef = .bool true := hv 55 6 (by kernel_rfl)
          have hd := hs.defers
          go_wp2
          refine bodyPost_ret (results_tmp rfl _ _ _) hd ?_
          rw [h6]
          exact ⟨rfl, hW.2.2.2⟩
        case step =>
          refine ⟨?_, ?_, ?_, ?_, ?_, ?_, ?_, ?_, ?_, ?_, ?_, ?_, ?_, ?_, ?_, ?_, ?_, ?_, ?_, ?_, ?_, ?_, ?_, ?_, ?_, ?_, ?_, ?_, ?_, ?_, ?_, ?_, ?_, ?_, ?_, ?_, ?_, ?_, ?_, ?_, ?_, ?_, ?_, ?_, ?_, ?_, ?_, ?_, ?_, ?_, ?_, ?_, ?_, ?_, ?_, ?_, trivial⟩
          · intro ρ w1 hF hW
            have HW := hidden hW
            clear hW
            have e0 : ρ 0 = .slice a0 len0 cap0 := hF 0 (by decide)
            clear hF
            unfold Does
            go_simp
            exact ⟨rfl, HW.out, Below.refl _ _⟩
          · intro ρ w1 hF hW
            have HW := hidden hW
            clear hW
            have e24 : ρ 24 = .slice a0 len0 cap0 := hF 24 (by decide)
            clear hF
            unfold Does
            go_simp
            refine (cat_calls _ _ LL HW.out.1 (fun b hb => hb) q1).mono ?_
            rintro e w2 ⟨v, rfl, hr, hb⟩
            exact ⟨_, rfl, rx_row hr, WJm HW.out hb, hb⟩
          · intro ρ w1 hF hW
            have HW := hidden hW
            clear hW
            have e0 : ρ 0 = .slice a0 len0 cap0 := hF 0 (by decide)
            clear hF
            unfold Does
            go_simp
            exact ⟨rfl, HW.out, Below.refl _ _⟩
          · intro ρ w1 hF hW
            have HW := hidden hW
            clear hW
            have e26 : ρ 26 = .slice a0 len0 cap0 := hF 26 (by decide)
            clear hF
            unfold Does
            go_simp
            refine (rcat_calls _ _ LL HW.out.1 (fun b hb => hb) q1).mono ?_
            rintro e w2 ⟨v, rfl, hr, hb⟩
            exact ⟨_, rfl, rx_row hr, WJm HW.out hb, hb⟩
          · intro ρ w1 hF hW
            have HW := hidden hW
            clear hW
            obtain e25 : RX (catV LL) (ρ 25) w1 := hF 25 (by decide)
            obtain e27 : RX (catV LL) (ρ 27) w1 := hF 27 (by decide)
            clear hF
            unfold Does
            go_simp
            refine (same_true e25 e27).mono ?_
            rintro e w2 ⟨rfl, hb⟩
            exact ⟨_, rfl, rfl, WJm HW.out hb, hb⟩
          · intro ρ w1 hF hW
            have HW := hidden hW
            clear hW
            have e28 : ρ 28 = .bool true := hF 28 (by decide)
            clear hF
            unfold Does
            go_simp
            exact ⟨rfl, HW.out, Below.refl _ _⟩
          · intro ρ w1 hF hW
            have HW := hidden hW
            clear hW
            have e0 : ρ 0 = .slice a0 len0 cap0 := hF 0 (by decide)
            clear hF
            unfold Does
            go_simp
            exact ⟨rfl, HW.out, Below.refl _ _⟩
          · intro ρ w1 hF hW
            have HW := hidden hW
            clear hW
            have e30 : ρ 30 = .slice a0 len0 cap0 := hF 30 (by decide)
            clear hF
            unfold Does
            go_simp
            refine (alt_calls _ _ LL HW.out.1 (fun b hb => hb) q2).mono ?_
            rintro e w2 ⟨v, rfl, hr, hb⟩
            exact ⟨_, rfl, rx_row hr, WJm HW.out hb, hb⟩
          · intro ρ w1 hF hW
            have HW := hidden hW
            clear hW
            have e0 : ρ 0 = .slice a0 len0 cap0 := hF 0 (by decide)
            clear hF
            unfold Does
            go_simp
            exact ⟨rfl, HW.out, Below.refl _ _⟩
          · intro ρ w1 hF hW
            have HW := hidden hW
            clear hW
            have e32 : ρ 32 = .slice a0 len0 cap0 := hF 32 (by decide)
            clear hF
            unfold Does
            go_simp
            refine (ralt_calls _ _ LL HW.out.1 (fun b hb => hb) q2).mono ?_
            rintro e w2 ⟨v, rfl, hr, hb⟩
            exact ⟨_, rfl, rx_row hr, WJm HW.out hb, hb⟩
          · intro ρ w1 hF hW
            have HW := hidden hW
            clear hW
            obtain e31 : RX (altV LL) (ρ 31) w1 := hF 31 (by decide)
            obtain e33 : RX (altV LL) (ρ 33) w1 := hF 33 (by decide)
            clear hF
            unfold Does
            go_simp
            refine (same_true e31 e33).mono ?_
            rintro e w2 ⟨rfl, hb⟩
            exact ⟨_, rfl, rfl, WJm HW.out hb, hb⟩
          · intro ρ w1 hF hW
            have HW := hidden hW
            clear hW
            have e29 : ρ 29 = .bool true := hF 29 (by decide)
            have e34 : ρ 34 = .bool true := hF 34 (by decide)
            clear hF
            unfold Does
            go_simp
            exact ⟨rfl, HW.out, Below.refl _ _⟩
          · intro ρ w1 hF hW
            have HW := hidden hW
            clear hW
            have e35 : ρ 35 = .bool true := hF 35 (by decide)
            clear hF
            unfold Does
            go_simp
            exact ⟨rfl, HW.out, Below.refl _ _⟩
          · intro ρ w1 hF hW
            have HW := hidden hW
            clear hW
            have e7 : ρ 7 = v1 := hF 7 (by decide)
            clear hF
            unfold Does
            go_simp
            exact ⟨rfl, HW.out, Below.refl _ _⟩
          · intro ρ w1 hF hW
            have HW := hidden hW
            clear hW
            have e37 : ρ 37 = v1 := hF 37 (by decide)
            clear hF
            unfold Does
            go_simp
            refine (star_calls _ _ one HW.out.2.1 (fun b hb => hb) q3).mono ?_
            rintro e w2 ⟨v, rfl, hr, hb⟩
            exact ⟨_, rfl, rx_row hr, WJm HW.out hb, hb⟩
          · intro ρ w1 hF hW
            have HW := hidden hW
            clear hW
            have e7 : ρ 7 = v1 := hF 7 (by decide)
            clear hF
            unfold Does
            go_simp
            exact ⟨rfl, HW.out, Below.refl _ _⟩
          · intro ρ w1 hF hW
            have HW := hidden hW
            clear hW
            have e39 : ρ 39 = v1 := hF 39 (by decide)
            clear hF
            unfold Does
            go_simp
            refine (one_calls _ _ _ one HW.out.2.1 (fun b hb => hb) q3).mono ?_
            rintro e w2 ⟨v, rfl, hr, hb⟩
            exact ⟨_, rfl, rx_row hr, WJm HW.out hb, hb⟩
          · intro ρ w1 hF hW
            have HW := hidden hW
            clear hW
            obtain e38 : RX (one ++ [kStp 5]) (ρ 38) w1 := hF 38 (by decide)
            obtain e40 : RX (one ++ [kStp 5]) (ρ 40) w1 := hF 40 (by decide)
            clear hF
            unfold Does
            go_simp
            refine (same_true e38 e40).mono ?_
            rintro e w2 ⟨rfl, hb⟩
            exact ⟨_, rfl, rfl, WJm HW.out hb, hb⟩
          · intro ρ w1 hF hW
            have HW := hidden hW
            clear hW
            have e36 : ρ 36 = .bool true := hF 36 (by decide)
            have e41 : ρ 41 = .bool true := hF 41 (by decide)
            clear hF
            unfold Does
            go_simp
            exact ⟨rfl, HW.out, Below.refl _ _⟩
          · intro ρ w1 hF hW
            have HW := hidden hW
            clear hW
            have e42 : ρ 42 = .bool true := hF 42 (by decide)
            clear hF
            unfold Does
            go_simp
            exact ⟨rfl, HW.out, Below.refl _ _⟩
          · intro ρ w1 hF hW
            have HW := hidden hW
            clear hW
            have e7 : ρ 7 = v1 := hF 7 (by decide)
            clear hF
            unfold Does
            go_simp
            exact ⟨rfl, HW.out, Below.refl _ _⟩
          · intro ρ w1 hF hW
            have HW := hidden hW
            clear hW
            have e44 : ρ 44 = v1 := hF 44 (by decide)
            clear hF
            unfold Does
            go_simp
            refine (plus_calls _ _ one HW.out.2.1 (fun b hb => hb) q3).mono ?_
            rintro e w2 ⟨v, rfl, hr, hb⟩
            exact ⟨_, rfl, rx_row hr, WJm HW.out hb, hb⟩
          · intro ρ w1 hF hW
            have HW := hidden hW
            clear hW
            have e7 : ρ 7 = v1 := hF 7 (by decide)
            clear hF
            unfold Does
            go_simp
            exact ⟨rfl, HW.out, Below.refl _ _⟩
          · intro ρ w1 hF hW
            have HW := hidden hW
            clear hW
            have e46 : ρ 46 = v1 := hF 46 (by decide)
            clear hF
            unfold Does
            go_simp
            refine (one_calls _ _ _ one HW.out.2.1 (fun b hb => hb) q3).mono ?_
            rintro e w2 ⟨v, rfl, hr, hb⟩
            exact ⟨_, rfl, rx_row hr, WJm HW.out hb, hb⟩
          · intro ρ w1 hF hW
            have HW := hidden hW
            clear hW
            obtain e45 : RX (one ++ [kStp 6]) (ρ 45) w1 := hF 45 (by decide)
            obtain e47 : RX (one ++ [kStp 6]) (ρ 47) w1 := hF 47 (by decide)
            clear hF
            unfold Does
            go_simp
            refine (same_true e45 e47).mono ?_
            rintro e w2 ⟨rfl, hb⟩
            exact ⟨_, rfl, rfl, WJm HW.out hb, hb⟩
          · intro ρ w1 hF hW
            have HW := hidden hW
            clear hW
            have e43 : ρ 43 = .bool true := hF 43 (by decide)
            have e48 : ρ 48 = .bool true := hF 48 (by decide)
            clear hF
            unfold Does
            go_simp
            exact ⟨rfl, HW.out, Below.refl _ _⟩
          · intro ρ w1 hF hW
            have HW := hidden hW
            clear hW
            have e49 : ρ 49 = .bool true := hF 49 (by decide)
            clear hF
            unfold Does
            go_simp
            exact ⟨rfl, HW.out, Below.refl _ _⟩
          · intro ρ w1 hF hW
            have HW := hidden hW
            clear hW
            have e7 : ρ 7 = v1 := hF 7 (by decide)
            clear hF
            unfold Does
            go_simp
            exact ⟨rfl, HW.out, Below.refl _ _⟩
          · intro ρ w1 hF hW
            have HW := hidden hW
            clear hW
            have e51 : ρ 51 = v1 := hF 51 (by decide)
            clear hF
            unfold Does
            go_simp
            refine (opt_calls _ _ one HW.out.2.1 (fun b hb => hb) q3).mono ?_
            rintro e w2 ⟨v, rfl, hr, hb⟩
            exact ⟨_, rfl, rx_row hr, WJm HW.out hb, hb⟩
          · intro ρ w1 hF hW
            have HW := hidden hW
            clear hW
            have e7 : ρ 7 = v1 := hF 7 (by decide)
            clear hF
            unfold Does
            go_simp
            exact ⟨rfl, HW.out, Below.refl _ _⟩
          · intro ρ w1 hF hW
            have HW := hidden hW
            clear hW
            have e53 : ρ 53 = v1 := hF 53 (by decide)
            clear hF
            unfold Does
            go_simp
            refine (one_calls _ _ _ one HW.out.2.1 (fun b hb => hb) q3).mono ?_
            rintro e w2 ⟨v, rfl, hr, hb⟩
            exact ⟨_, rfl, rx_row hr, WJm HW.out hb, hb⟩
          · intro ρ w1 hF hW
            have HW := hidden hW
            clear hW
            obtain e52 : RX (one ++ [kStp 7]) (ρ 52) w1 := hF 52 (by decide)
            obtain e54 : RX (one ++ [kStp 7]) (ρ 54) w1 := hF 54 (by decide)
            clear hF
            unfold Does
            go_simp
            refine (same_true e52 e54).mono ?_
            rintro e w2 ⟨rfl, hb⟩
            exact ⟨_, rfl, rfl, WJm HW.out hb, hb⟩
          · intro ρ w1 hF hW
            have HW := hidden hW
            clear hW
            have e50 : ρ 50 = .bool true := hF 50 (by decide)
            have e55 : ρ 55 = .bool true := hF 55 (by decide)
            clear hF
            unfold Does
            go_simp
            exact ⟨rfl, HW.out, Below.refl _ _⟩
          · intro ρ w1 hF hW
            have HW := hidden hW
            clear hW
            have e56 : ρ 56 = .bool true := hF 56 (by decide)
            clear hF
            unfold Does
            go_simp
            exact ⟨rfl, HW.out, Below.refl _ _⟩
          · intro ρ w1 hF hW
            have HW := hidden hW
            clear hW
            have e4 : ρ 4 = .pointer (some ⟨w.heap.size, 0, none⟩) := hF 4 (by decide)
            clear hF
            obtain ⟨c0, c1, c2, c3⟩ := HW.out.2.2.1.facts
            unfold Does
            go_simp
            exact ⟨rfl, HW.out, Below.refl _ _⟩
          · intro ρ w1 hF hW
            have HW := hidden hW
            clear hW
            have e58 : ρ 58 = .agg #[.int .u64 a, .int .u64 b, .int .u64 c, .int .u64 d] := hF 58 (by decide)
            clear hF
            unfold Does
            go_simp
            refine (set_rx _ _ _ _ _).mono ?_
            rintro e w2 ⟨v, rfl, hr, hb⟩
            exact ⟨_, rfl, rx_row hr, WJm HW.out hb, hb⟩
          · intro ρ w1 hF hW
            have HW := hidden hW
            clear hW
            have e4 : ρ 4 = .pointer (some ⟨w.heap.size, 0, none⟩) := hF 4 (by decide)
            clear hF
            obtain ⟨c0, c1, c2, c3⟩ := HW.out.2.2.1.facts
            unfold Does
            go_simp
            exact ⟨rfl, HW.out, Below.refl _ _⟩
          · intro ρ w1 hF hW
            have HW := hidden hW
            clear hW
            have e60 : ρ 60 = .agg #[.int .u64 a, .int .u64 b, .int .u64 c, .int .u64 d] := hF 60 (by decide)
            clear hF
            unfold Does
            go_simp
            refine (rset_rx _ _ _ _ _).mono ?_
            rintro e w2 ⟨v, rfl, hr, hb⟩
            exact ⟨_, rfl, rx_row hr, WJm HW.out hb, hb⟩
          · intro ρ w1 hF hW
            have HW := hidden hW
            clear hW
            obtain e59 : RX ([⟨1, a, b, c, d⟩]) (ρ 59) w1 := hF 59 (by decide)
            obtain e61 : RX ([⟨1, a, b, c, d⟩]) (ρ 61) w1 := hF 61 (by decide)
            clear hF
            unfold Does
            go_simp
            refine (same_true e59 e61).mono ?_
            rintro e w2 ⟨rfl, hb⟩
            exact ⟨_, rfl, rfl, WJm HW.out hb, hb⟩
          · intro ρ w1 hF hW
            have HW := hidden hW
            clear hW
            have e57 : ρ 57 = .bool true := hF 57 (by decide)
            have e62 : ρ 62 = .bool true := hF 62 (by decide)
            clear hF
            unfold Does
            go_simp
            exact ⟨rfl, HW.out, Below.refl _ _⟩
          · intro ρ w1 hF hW
            have HW := hidden hW
            clear hW
            have e63 : ρ 63 = .bool true := hF 63 (by decide)
            clear hF
            unfold Does
            go_simp
            exact ⟨rfl, HW.out, Below.refl _ _⟩
          · intro ρ w1 hF hW
            have HW := hidden hW
            clear hW
            clear hF
            unfold Does
            go_simp
            refine (empty_rx _).mono ?_
            rintro e w2 ⟨v, rfl, hr, hb⟩
            exact ⟨_, rfl, rx_row hr, WJm HW.out hb, hb⟩
          · intro ρ w1 hF hW
            have HW := hidden hW
            clear hW
            clear hF
            unfold Does
            go_simp
            refine (rempty_rx _).mono ?_
            rintro e w2 ⟨v, rfl, hr, hb⟩
            exact ⟨_, rfl, rx_row hr, WJm HW.out hb, hb⟩
          · intro ρ w1 hF hW
            have HW := hidden hW
            clear hW
            obtain e65 : RX ([kStp 2]) (ρ 65) w1 := hF 65 (by decide)
            obtain e66 : RX ([kStp 2]) (ρ 66) w1 := hF 66 (by decide)
            clear hF
            unfold Does
            go_simp
            refine (same_true e65 e66).mono ?_
            rintro e w2 ⟨rfl, hb⟩
            exact ⟨_, rfl, rfl, WJm HW.out hb, hb⟩
          · intro ρ w1 hF hW
            have HW := hidden hW
            clear hW
            have e64 : ρ 64 = .bool true := hF 64 (by decide)
            have e67 : ρ 67 = .bool true := hF 67 (by decide)
            clear hF
            unfold Does
            go_simp
            exact ⟨rfl, HW.out, Below.refl _ _⟩
          · intro ρ w1 hF hW
            have HW := hidden hW
            clear hW
            have e68 : ρ 68 = .bool true := hF 68 (by decide)
            clear hF
            unfold Does
            go_simp
            exact ⟨rfl, HW.out, Below.refl _ _⟩
          · intro ρ w1 hF hW
            have HW := hidden hW
            clear hW
            have e2 : ρ 2 = .string t := hF 2 (by decide)
            clear hF
            unfold Does
            go_simp
            exact ⟨rfl, HW.out, Below.refl _ _⟩
          · intro ρ w1 hF hW
            have HW := hidden hW
            clear hW
            have e70 : ρ 70 = .string t := hF 70 (by decide)
            clear hF
            unfold Does
            go_simp
            refine (text_calls _ _ q4).mono ?_
            rintro e w2 ⟨v, rfl, hr, hb⟩
            exact ⟨_, rfl, rx_row hr, WJm HW.out hb, hb⟩
          · intro ρ w1 hF hW
            have HW := hidden hW
            clear hW
            have e2 : ρ 2 = .string t := hF 2 (by decide)
            clear hF
            unfold Does
            go_simp
            exact ⟨rfl, HW.out, Below.refl _ _⟩
          · intro ρ w1 hF hW
            have HW := hidden hW
            clear hW
            have e72 : ρ 72 = .string t := hF 72 (by decide)
            clear hF
            unfold Does
            go_simp
            refine (rtext_calls _ _ q4).mono ?_
            rintro e w2 ⟨v, rfl, hr, hb⟩
            exact ⟨_, rfl, rx_row hr, WJm HW.out hb, hb⟩
          · intro ρ w1 hF hW
            have HW := hidden hW
            clear hW
            obtain e71 : RX (textV t) (ρ 71) w1 := hF 71 (by decide)
            obtain e73 : RX (textV t) (ρ 73) w1 := hF 73 (by decide)
            clear hF
            unfold Does
            go_simp
            refine (same_true e71 e73).mono ?_
            rintro e w2 ⟨rfl, hb⟩
            exact ⟨_, rfl, rfl, WJm HW.out hb, hb⟩
          · intro ρ w1 hF hW
            have HW := hidden hW
            clear hW
            have e69 : ρ 69 = .bool true := hF 69 (by decide)
            have e74 : ρ 74 = .bool true := hF 74 (by decide)
            clear hF
            unfold Does
            go_simp
            exact ⟨rfl, HW.out, Below.refl _ _⟩
          · intro ρ w1 hF hW
            have HW := hidden hW
            clear hW
            have e75 : ρ 75 = .bool true := hF 75 (by decide)
            clear hF
            unfold Does
            go_simp
            exact ⟨rfl, HW.out, Below.refl _ _⟩
          · intro ρ w1 hF hW
            have HW := hidden hW
            clear hW
            clear hF
            unfold Does
            go_simp
            refine (knows_calls _).mono ?_
            rintro e w2 ⟨rfl, hb⟩
            exact ⟨_, rfl, rfl, WJm HW.out hb, hb⟩
          · intro ρ w1 hF hW
            have HW := hidden hW
            clear hW
            have e76 : ρ 76 = .bool true := hF 76 (by decide)
            have e77 : ρ 77 = .bool true := hF 77 (by decide)
            clear hF
            unfold Does
            go_simp
            exact ⟨rfl, HW.out, Below.refl _ _⟩
          · intro ρ w1 hF hW
            have HW := hidden hW
            clear hW
            have e78 : ρ 78 = .bool true := hF 78 (by decide)
            clear hF
            unfold Does
            go_simp
            exact ⟨rfl, HW.out, Below.refl _ _⟩

set_option maxRecDepth 100000 in
theorem lifted (os : Os) (started : os.Started) (H : Type) (enc : TypeId × Value → H) :
    ReturnsInHanded {} Try.checked os 3 .any (Rows.rxMakesSpec.pre6 enc Try.prog Try.f3 Rows.rxMakesRow.domain false) (Rows.rxMakesSpec.post enc Try.prog Try.f3 false true false false) := by
  refine returnsInHanded_of_change (C := Try.checked) own started (by kernel_rfl) Try.func3
    (ChangeSpec.witness6 (enc := enc) (C := Try.checked) false ⟨#[], #[.slice none 0 0, .agg #[.int .u64 0, .int .u64 0, .int .u64 0, .int .u64 0], .string ⟨#[]⟩], []⟩ 8 (by kernel_rfl) (by kernel_rfl) (by kernel_rfl) (by kernel_rfl)) ?_
  intro W base args ds gs before hval0 hW hcnd _
  have hval : ∀ (j : Nat) t v, Try.f3.params[j]? = some t → args[j]? = some v → Value.okWide Try.prog W .any base t v := hval0
  have hW' : DataW.Whole enc Try.prog Try.f3.params.toList Rows.rxMakesSpec.vars false W args.toList ds gs before := hW
  obtain ⟨p, q, hA0, hV, rfl, hfz, hnd⟩ := hW
  have hA : DataW.TrodAll enc Try.prog W 0 (fun _ => true) true Try.f3.params.toList args.toList ds p := hA0
  have hlt : ∀ x ∈ p, x.block < W.heap.size := fun x hx => hW'.lt x (List.mem_append_left _ hx)
  rw [Try.params3] at hA hval
  obtain ⟨v0, vs0, d0, ds0, p0, q0, hargs, hd0, hp0, h0, r0⟩ := trodAll_cons hA
  obtain ⟨v1, vs1, d1, ds1, p1, q1, rfl, hd1, hp1, h1, r1⟩ := trodAll_cons r0
  obtain ⟨v2, vs2, d2, ds2, p2, q2, rfl, hd2, hp2, h2, r2⟩ := trodAll_cons r1
  obtain ⟨rfl, _, _⟩ := trodAll_nil r2
  obtain rfl : args = #[v0, v1, v2] := by cases args; simp_all
  obtain ⟨a0, len0, cap0, rfl⟩ := okWide_slice Try.underlying22 (hval 0 22 v0 rfl rfl)
  obtain ⟨z0, w0⟩ := open_rxs h0
  obtain ⟨a1, b1, c1, e1, rfl, w1⟩ := open_four (hval 1 25 v1 rfl rfl) h1
  obtain ⟨a2, rfl, _, _, w2⟩ := open_string Try.underlying9 (hval 2 9 v2 rfl rfl) h2
  refine (walk a0 len0 cap0 z0 a1 b1 c1 e1 a2 W w0 w1 w2).mono fun e W' ⟨he, hb⟩ => ⟨_, he, ends_true hW' rfl (by kernel_rfl) ?_ (by kernel_rfl) hb⟩
  intro xs hxs
  match xs, hxs with
  | [_, _, _], _ => rfl

theorem proved : Rows.RxMakesSaid :=
  OpenClaim.holds_of_wide 3 Try.f3 rfl rfl rfl rfl rfl rfl rfl ⟨rfl, rfl, rfl, rfl, rfl⟩ rfl rfl rfl rfl rfl (by kernel_rfl) Try.func3 (by kernel_rfl)
    (of_decide_eq_true (by kernel_rfl)) (by unfold Func.isWrapper; first | (rw [if_pos (by decide +kernel)]; kernel_rfl) | (rw [if_neg (by decide +kernel)]; exact ⟨rfl, rfl⟩))
    (fun os started H enc _ => lifted os started H enc)

end Go.Proofs.Ytfjedkebckfpfaa.lawRxMakes
