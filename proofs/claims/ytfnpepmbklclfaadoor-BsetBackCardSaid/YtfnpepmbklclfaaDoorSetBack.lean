/- 'BsetBack' answers true for every set: its stretches do not touch, come to the set again, and have as many bytes as it has. Conditions: the listed table of math/bits as it is laid (the card ties it). -/
import Derived.Test.YtfnpepmbklclfaaDoorSetSteps
import Derived.Test.YtfnpepmbklclfaaDoorBackMath
import Derived.Deep.RegionHeld3
import Derived.Deep.QuietTactic
import Derived.BigQuiet
import Derived.Deep.AppendLies
import Derived.IntWalk
namespace Go.Proofs.YtfnpepmbklclfaaDoor.lawBsetBack
open Go.ChangeShapes Go.WideShapes Go.ChangeAt Go.RowKit
open Go.ChangeMaps (open_string shut_string)
attribute [local go_sem] evalR_tmp evalR_const evalR_global evalR_func

theorem infoSet : (Tryd.prog.info? 24).map (fun i => (i.zero, i.size, i.bytes)) = some (some (.agg #[.int .u64 0, .int .u64 0, .int .u64 0, .int .u64 0]), 4, 32) := by kernel_rfl
def setV (f : Nat → Bool) : List Value := [.int .u64 (word (f) 0), .int .u64 (word (f) 1), .int .u64 (word (f) 2), .int .u64 (word (f) 3)]
/-- sets got so far, in a row of the call's own -/
def GotS (L : List (Nat × Nat)) (base : Nat) (v : Value) (w : World) : Prop := w.ownsRow base 24 4 v L.length ((L.map spanOf).flatMap setV)

theorem gotS_more {R : List (Nat × Nat)} {k base a b : Nat} {v : Value} {w : World} (hk : k < R.length) (he : R.getD k (0, 0) = (a, b))
    (h : w.ownsRow base 24 4 v ((R.take k).length + 1) (((R.take k).map spanOf).flatMap setV ++ [.int .u64 (word (fSpan (a : Int) (b : Int)) 0), .int .u64 (word (fSpan (a : Int) (b : Int)) 1), .int .u64 (word (fSpan (a : Int) (b : Int)) 2), .int .u64 (word (fSpan (a : Int) (b : Int)) 3)])) : GotS (R.take (k + 1)) base v w := by
  have e : R.take (k + 1) = R.take k ++ [(a, b)] := by
    rw [List.take_succ_eq_append_getElem hk]
    rw [List.getD_eq_getElem?_getD, List.getElem?_eq_getElem hk] at he
    simp only [Option.getD_some] at he
    rw [he]
  unfold GotS
  rw [e, List.length_append, List.map_append, List.flatMap_append]
  exact h
def rowLen (f : Nat → Bool) (v : Value) (_ : World) : Prop := ∃ a c, v = .slice a (elems f).length c
theorem rowLen_mono (f : Nat → Bool) : ∀ v w w', rowLen f v w → Below w.heap.size w w' → rowLen f v w' := fun _ _ _ h _ => h
theorem rowLen_row {f : Nat → Bool} {w : World} {base : Nat} {v : Value} (h : w.ownsRow base 5 1 v (elems f).length ((elems f).map byteV)) : rowLen f v w := by
  rcases row_form h with ⟨rfl, h0⟩ | ⟨g, cap, rfl, _⟩
  · exact ⟨none, 0, by rw [h0]⟩
  · exact ⟨_, _, rfl⟩
theorem sets_get : ∀ (fs : List (Nat → Bool)) (i : Nat), i < fs.length → ∀ j, j < 4 → (fs.flatMap setV)[i * 4 + j]? = some (.int .u64 (word (fs.getD i fNone) j))
  | [], i, h, _, _ => by simp at h
  | f :: r, 0, _, j, hj => by
    obtain rfl | rfl | rfl | rfl : j = 0 ∨ j = 1 ∨ j = 2 ∨ j = 3 := by omega
    all_goals simp [setV]
  | f :: r, i + 1, h, j, hj => by
    have ih := sets_get r i (by simpa using h) j hj
    have e : (f :: r).flatMap setV = setV f ++ r.flatMap setV := by simp
    rw [e, List.getElem?_append_right (by simp [setV]; omega), List.getD_cons_succ, ← ih]
    congr 1
    simp [setV]
    omega
theorem sets_of_row {w : World} {base : Nat} {v : Value} {L : List (Nat × Nat)} (h : GotS L base v w) : ∃ a cap, v = .slice a L.length cap ∧ cap ≤ maxLen ∧ Sets w a L.length (L.map spanOf) := by
  unfold GotS at h
  rcases row_form h with ⟨rfl, h0⟩ | ⟨g, cap, rfl, _, hg, _, hm, hc⟩
  · exact ⟨none, 0, by rw [h0], Nat.zero_le _, by simp, fun hp => by omega⟩
  · refine ⟨_, cap, rfl, hm, by simp, fun _ => ⟨g, 0, rfl, hg, fun i hi j hj => ?_⟩⟩
    have := sets_get (L.map spanOf) i (by simpa using hi) j hj
    rw [Nat.zero_add]
    exact (hc _ (by omega)).trans this
def WB (w0 : World) (f : Nat → Bool) (a : Option Addr) (R : List (Nat × Nat)) (w : World) : Prop := SetAt w w0.heap.size f ∧ Sets w a R.length (R.map spanOf) ∧ Below w0.heap.size w0 w
theorem WBm {w0 w w' : World} {f : Nat → Bool} {a : Option Addr} {R : List (Nat × Nat)} (h : WB w0 f a R w) (hb : Below w.heap.size w w') : WB w0 f a R w' := ⟨h.1.below hb, sets_mono h.2.1 hb, below_after h.2.2 hb⟩
def L (f : Nat → Bool) (R : List (Nat × Nat)) (a : Option Addr) (c : Nat) : List (Value → World → Prop) := [
  Is (.slice a R.length c), set (fAny (R.map spanOf)), set (f), isTrue, isTrue, Is (.int .i64 (elems f).length), set (f), Is (.int .i64 (elems f).length), isTrue, isTrue, isTrue, Is (.int .i64 (elems f).length), set (f), rowLen f, Is (.int .i64 (elems f).length), isTrue, isTrue, isTrue, isTrue, isTrue, isTrue]
def Held (w1 : World) (g k a b : Nat) (w' : World) : Prop := Below w1.heap.size w1 w' ∧ w'.cell? ⟨g, k * 2, none⟩ = some (.int .i64 a) ∧ w'.cell? ⟨g, k * 2 + 1, none⟩ = some (.int .i64 b)
theorem held {w1 w' : World} {R : List (Nat × Nat)} {g k a b : Nat} (hp : Pairs w1 (some ⟨g, 0, none⟩) R) (hk : k < R.length) (he : R.getD k (0, 0) = (a, b)) (hb : Below w1.heap.size w1 w') : Held w1 g k a b w' := by
  obtain ⟨g', e1, _, hc⟩ := hp.below hb (by omega)
  obtain rfl : g = g' := by simpa using e1
  have := hc k hk
  rw [he] at this
  exact ⟨hb, this.1, this.2⟩
theorem set_news {w : World} {f : Nat → Bool} (j : Nat) (u : Value) (hu : [.int .u64 (word (f) 0), .int .u64 (word (f) 1), .int .u64 (word (f) 2), .int .u64 (word (f) 3)][j]? = some u) : (w.alloc (.cells #[.int .u64 (word (f) 0), .int .u64 (word (f) 1), .int .u64 (word (f) 2), .int .u64 (word (f) 3)] 24)).cell? ((⟨w.heap.size, 0, none⟩ : Addr).add j) = some u :=
  World.news_of_block (heap_alloc_new _ _) j u hu
theorem set_one {f : Nat → Bool} (u : Value) (hu : u ∈ [.int .u64 (word (f) 0), .int .u64 (word (f) 1), .int .u64 (word (f) 2), .int .u64 (word (f) 3)]) : u.oneCell' = true := by
  simp at hu
  rcases hu with rfl | rfl | rfl | rfl <;> rfl

set_option maxHeartbeats 4000000 in
set_option maxRecDepth 100000 in
theorem walk (f : Nat → Bool) (w : World) (ht : Tab w) :
    Calls Tryd.prog 7 #[(.agg #[.int .u64 (word (f) 0), .int .u64 (word (f) 1), .int .u64 (word (f) 2), .int .u64 (word (f) 3)])] w fun e w' => e = .returned (.bool true) ∧ Below w.heap.size w w' := by
  obtain ⟨i0, hi, hz0, hz1, hz2⟩ := info_parts infoSet
  have HI := hidden hi
  have HZ := hidden (And.intro hz0 (And.intro hz1 hz2))
  have HT := hidden ht
  have hR := fun p (h : p ∈ runs f) => runs_le2 h
  have HR := hidden hR
  have HC := hidden (back_all f).chain
  have hn256 : (runs f).length ≤ 256 := by
    have := upRuns_len f 256
    rwa [upRuns_all] at this
  generalize hRR : runs f = R at *
  have HRR := hidden hRR
  clear hi hz0 hz1 hz2 ht hR hRR
  go_enter Tryd.func7, Tryd.ntmps7
  go_wp2_with fail
  refine (runs_calls f _ (HT.out.alloc _)).mono ?_
  rintro e w1 ⟨v, rfl, hown, hb1⟩
  rw [HRR.out] at hown
  obtain ⟨a1, c1, rfl, hc1, hp⟩ := pairs_of_row hown
  have HP := hidden hp
  have HS1 := hidden ((SetAt.new w f).below hb1)
  have HB1 := hidden (below_then ((Below.refl w.heap.size w).alloc (Nat.le_refl _) (.cells #[.int .u64 (word (f) 0), .int .u64 (word (f) 1), .int .u64 (word (f) 2), .int .u64 (word (f) 3)] 24)) (by simp) hb1)
  clear hown hb1 hp
  go_wp2
  go_loopw [4, 5, 6] (fun v s i wr => ∃ k : Nat, k ≤ R.length ∧ i = .int .i64 k ∧ s = .int .i64 (sumOf (R.take k) : Nat) ∧ GotS (R.take k) w1.heap.size v wr ∧ Below w1.heap.size w1 wr) (fun _ _ i _ => R.length - (intOf i).toNat)
  case atStart =>
    exact ⟨0, by omega, rfl, rfl, ⟨rfl, .inr ⟨_, 0, #[], rfl, Nat.le_refl _, heap_alloc_new _ _, Nat.le_refl _, by decide, rfl, rfl⟩⟩, by go_grown⟩
  case round =>
    obtain ⟨k, hk, rfl, rfl, hG, hb⟩ := hrel
    have HG := hidden hG
    have HB := hidden hb
    have l1 := hb.size
    clear hG hb
    by_cases hlt : k < R.length
    · obtain ⟨g, e1, hg, hcell⟩ := HP.out.below HB.out (by omega)
      subst e1
      have hmem : R.getD k (0, 0) ∈ R := by
        rw [List.getD_eq_getElem?_getD, List.getElem?_eq_getElem hlt]
        exact List.getElem_mem _
      have hab := HR.out _ hmem
      have x1 := (hcell k hlt).1
      have y1 := (hcell k hlt).2
      have HM := hidden (sumOf_more R k hlt)
      have hbd := sumOf_bound (R.take k) fun p hp => HR.out p (List.mem_of_mem_take hp)
      have hbd2 : sumOf (R.take k) ≤ 65536 := by
        have : (R.take k).length ≤ 256 := by
          rw [List.length_take]
          omega
        omega
      have hprev : 0 < k → ∃ pb : Nat, wr.cell? ⟨g, (k - 1) * 2 + 1, none⟩ = some (.int .i64 pb) ∧ pb + 2 ≤ (R.getD k (0, 0)).1 := fun hp => by
        refine ⟨_, (hcell (k - 1) (by omega)).2, ?_⟩
        have := HC.out (k - 1) (by omega)
        rwa [show k - 1 + 1 = k by omega] at this
      have HPv := hidden hprev
      have HRp := hidden (rfl : R.getD k (0, 0) = R.getD k (0, 0))
      clear hcell hmem hbd hprev
      generalize hpe : R.getD k (0, 0) = p at *
      obtain ⟨a, b⟩ := p
      have HPE := hidden hpe
      simp only at hab x1 y1
      clear hpe HRp
      have hd1 : decide ((b : Int) < (a : Int)) = false := by simp; omega
      have hk0 : (0 : Int) ≤ (k : Int) := by omega
      have hkl : (k : Int) < (R.length : Int) := by omega
      have hc1' : R.length ≤ 9223372036854775807 := by omega
      have hd0 : decide ((k : Int) < (R.length : Int)) = true := by simp; omega
      have hd1' : decide (b < a) = false := by simp; omega
      have q6 : IntKind.i64.wrap ((sumOf (R.take k) : Int) + (b : Int)) = (sumOf (R.take k) : Int) + (b : Int) := IntWalk.i64_in _ (by omega)
      have q7 : IntKind.i64.wrap ((sumOf (R.take k) : Int) + (b : Int) - (a : Int)) = (sumOf (R.take k) : Int) + (b : Int) - (a : Int) := IntWalk.i64_in _ (by omega)
      have q8 : IntKind.i64.wrap ((sumOf (R.take k) : Int) + (b : Int) - (a : Int) + 1) = (sumOf (R.take k) : Int) + (b : Int) - (a : Int) + 1 := IntWalk.i64_in _ (by omega)
      have HQ := hidden (And.intro q6 (And.intro q7 q8))
      clear q6 q7 q8
      by_cases h0 : 0 < k
      case' pos =>
        obtain ⟨pb, y0, hpb⟩ := HPv.out h0
        have hd2 : decide ((0 : Int) < (k : Int)) = true := by simp; omega
        have hd2' : decide (0 < k) = true := by simp; omega
        have hd3 : decide ((a : Int) < (pb : Int) + 2) = false := by simp; omega
        have q1 : IntKind.i64.wrap ((k : Int) - 1) = (k : Int) - 1 := IntWalk.i64_in _ (by omega)
        have q2 : IntKind.i64.wrap ((pb : Int) + 2) = (pb : Int) + 2 := IntWalk.i64_in _ (by omega)
        have q3 : (0 : Int) ≤ (k : Int) - 1 := by omega
        have q4 : (k : Int) - 1 < (R.length : Int) := by omega
        have q5 : ((k : Int) - 1).toNat = k - 1 := by omega
        go_wp2_with fail
        go_quiet (fail)
        go_wp2
        clear q1 q2 q3 q4 q5 hd2 hd2' hd3 y0 hpb
      case' neg =>
        have hd2 : decide ((0 : Int) < (k : Int)) = false := by simp; omega
        have hd2' : decide (0 < k) = false := by simp; omega
        go_wp2_with fail
        go_quiet (fail)
        go_wp2
        clear hd2 hd2'
      all_goals
        have hkl2 : (R.take k).length = k := by rw [List.length_take]; omega
        have K3 := hidden (show (R.take k).length + 1 ≤ maxLen by unfold maxLen; omega)
        have K4 := hidden (show ((R.take k).length + 1) * 32 ≤ 140737488355328 by omega)
        have K0 := hidden l1
        clear hkl2
        go_region_held3 (fun w' => Below w1.heap.size w1 w' ∧ w'.cell? ⟨g, k * 2, none⟩ = some (.int .i64 a) ∧ w'.cell? ⟨g, k * 2 + 1, none⟩ = some (.int .i64 b))
          (first
            | exact held HP.out hlt HPE.out ⟨HB.out.os, HB.out.tape, HB.out.output, HB.out.size, HB.out.block⟩
            | exact held HP.out hlt HPE.out hB5
            | exact held HP.out hlt HPE.out hB4
            | exact held HP.out hlt HPE.out hB3)
          (first
            | (go_at_call 10; refine (span_calls a b _).mono ?_; rintro e w3 ⟨rfl, hb3⟩;
               have hb3' : Below wr.heap.size wr w3 := ⟨hb3.os, hb3.tape, hb3.output, hb3.size, hb3.block⟩;
               have hB3 : Below w1.heap.size w1 w3 := below_then HB.out K0.out hb3';
               have hB4 : Below w1.heap.size w1 (w3.alloc (.cells #[.int .u64 (word (fSpan (a : Int) (b : Int)) 0), .int .u64 (word (fSpan (a : Int) (b : Int)) 1), .int .u64 (word (fSpan (a : Int) (b : Int)) 2), .int .u64 (word (fSpan (a : Int) (b : Int)) 3)] 24)) := hB3.alloc hB3.size _;
               have hO := row_below HG.out hb3')
            | (refine step_append_lies _ rfl _ _ 29 rfl w1.heap.size 24 i0 (.agg #[.int .u64 0, .int .u64 0, .int .u64 0, .int .u64 0]) 4 32 Tryd.underlying29 HI.out HZ.out.1 HZ.out.2.1 HZ.out.2.2 rfl (by decide) _ _ _ rfl (hO.alloc _) ⟨w3.heap.size, 0, none⟩ 1 1 [.int .u64 (word (fSpan (a : Int) (b : Int)) 0), .int .u64 (word (fSpan (a : Int) (b : Int)) 1), .int .u64 (word (fSpan (a : Int) (b : Int)) 2), .int .u64 (word (fSpan (a : Int) (b : Int)) 3)] rfl rfl set_news set_one (by decide) K3.out K4.out hB4.size _ rfl ?_;
               intro g5 cap5 w5 hown5 hgrow5 hlie5 hlt5;
               have hB5 : Below w1.heap.size w1 w5 := below_grown hB4 (hO.alloc _) hgrow5 (Nat.le_refl _) hB4.size))
        obtain ⟨_, z1, z2⟩ := held HP.out hlt HPE.out hB5
        have HN := hidden (gotS_more hlt HPE.out hown5)
        have HB5 := hidden hB5
        obtain ⟨q6, q7, q8⟩ := HQ.out
        clear hown5 hgrow5 hlie5 hb3 hb3' hB3 hB4 hO hB5 x1 y1
        go_wp2_with fail
        go_quiet (fail)
        clear q6 q7 q8
        go_wp2
        have hkl2 : (R.take k).length = k := by rw [List.length_take]; omega
        rw [hkl2] at HN
        refine ⟨⟨k + 1, by omega, by go_num, ?_, row_below HN.out (below_drawn (Below.refl _ _) _), below_drawn HB5.out _⟩, by simp [intOf]; omega⟩
        rw [HM.out]
        exact congrArg _ (by omega)
    · obtain rfl : k = R.length := by omega
      have hd0 : decide ((R.length : Int) < (R.length : Int)) = false := by simp
      have HG' := HG.out
      rw [List.take_length] at HG'
      obtain ⟨a, c, rfl, hcm, hsets⟩ := sets_of_row HG'
      have hSum : sumOf (R.take R.length) = (elems f).length := by rw [List.take_length, ← HRR.out]; exact (back_all f).sum
      have HU := hidden (show ∀ n, n < 256 → fAny (R.map spanOf) n = f n by rw [← HRR.out]; exact (back_all f).union)
      have HW0 := hidden (show WB w f a R wr from ⟨HS1.out.below HB.out, hsets, below_then HB1.out HB1.out.size (HB.out.mono (Nat.le_refl _))⟩)
      have hm : R.length ≤ 9223372036854775807 := by omega
      rw [hSum]
      clear HG HG' hsets
      go_wp2
      refine wp_region_steps (typ (L f R a c)) (WB w f a R) (by kernel_rfl) (by kernel_rfl) (by kernel_rfl) (by kernel_rfl) ?mono ?start [4, 10, 17] (by kernel_rfl) ?guards ?step ?fin
      case mono =>
        refine typ_mono ?_
        simp only [L, List.forall_mem_cons]
        repeat' (first | exact is_mono _ | exact rowLen_mono _ | (intro p hp; cases hp; done) | refine And.intro ?_ ?_)
      case start => exact ⟨HW0.out.1.drew, sets_mono HW0.out.2.1 (Below.refl _ _).drew, HW0.out.2.2.drew⟩
      case guards =>
        intro g hg v w h
        simp at hg
        rcases hg with rfl | rfl | rfl <;> exact h
      case fin =>
        intro a w1 hs hv hW
        rename_i Q' K hK
        refine hK a w1 ?_
        have h6 : a.tmps.getD 2 undef = .bool true := hv 20 2 (by kernel_rfl)
        have hd := hs.defers
        go_wp2
        refine bodyPost_ret (results_tmp rfl _ _ _) hd ?_
        rw [h6]
        exact ⟨rfl, hW.2.2⟩
      case step =>
        refine ⟨?_, ?_, ?_, ?_, ?_, ?_, ?_, ?_, ?_, ?_, ?_, ?_, ?_, ?_, ?_, ?_, ?_, ?_, ?_, ?_, ?_, trivial⟩
        · intro ρ w1 hF hW
          have HW := hidden hW
          clear hW
          have e4 : ρ 4 = .slice a R.length c := hF 4 (by decide)
          clear hF
          unfold Does
          go_simp
          exact ⟨rfl, HW.out, Below.refl _ _⟩
        · intro ρ w1 hF hW
          have HW := hidden hW
          clear hW
          have e74 : ρ 74 = .slice a R.length c := hF 74 (by decide)
          clear hF
          unfold Does
          go_simp
          refine (all_calls _ R.length c (R.map spanOf) _ hm HW.out.2.1).mono ?_
          rintro e w2 ⟨rfl, hb⟩
          exact ⟨_, rfl, rfl, WBm HW.out hb, hb⟩
        · intro ρ w1 hF hW
          have HW := hidden hW
          clear hW
          have e1 : ρ 1 = .pointer (some ⟨w.heap.size, 0, none⟩) := hF 1 (by decide)
          clear hF
          obtain ⟨c0, c1, c2, c3, _, _, _, _⟩ := HW.out.1.facts
          unfold Does
          go_simp
          exact ⟨rfl, HW.out, Below.refl _ _⟩
        · intro ρ w1 hF hW
          have HW := hidden hW
          clear hW
          have e75 : ρ 75 = (.agg #[.int .u64 (word (fAny (R.map spanOf)) 0), .int .u64 (word (fAny (R.map spanOf)) 1), .int .u64 (word (fAny (R.map spanOf)) 2), .int .u64 (word (fAny (R.map spanOf)) 3)]) := hF 75 (by decide)
          have e76 : ρ 76 = (.agg #[.int .u64 (word (f) 0), .int .u64 (word (f) 1), .int .u64 (word (f) 2), .int .u64 (word (f) 3)]) := hF 76 (by decide)
          clear hF
          have hq := eqT w1 HU.out
          unfold Does
          go_simp
          exact ⟨rfl, HW.out, Below.refl _ _⟩
        · intro ρ w1 hF hW
          have HW := hidden hW
          clear hW
          have e77 : ρ 77 = .bool true := hF 77 (by decide)
          clear hF
          unfold Does
          go_simp
          exact ⟨rfl, HW.out, Below.refl _ _⟩
        · intro ρ w1 hF hW
          have HW := hidden hW
          clear hW
          have e5 : ρ 5 = .int .i64 (elems f).length := hF 5 (by decide)
          clear hF
          unfold Does
          go_simp
          exact ⟨rfl, HW.out, Below.refl _ _⟩
        · intro ρ w1 hF hW
          have HW := hidden hW
          clear hW
          have e1 : ρ 1 = .pointer (some ⟨w.heap.size, 0, none⟩) := hF 1 (by decide)
          clear hF
          obtain ⟨c0, c1, c2, c3, _, _, _, _⟩ := HW.out.1.facts
          unfold Does
          go_simp
          exact ⟨rfl, HW.out, Below.refl _ _⟩
        · intro ρ w1 hF hW
          have HW := hidden hW
          clear hW
          have e80 : ρ 80 = (.agg #[.int .u64 (word (f) 0), .int .u64 (word (f) 1), .int .u64 (word (f) 2), .int .u64 (word (f) 3)]) := hF 80 (by decide)
          clear hF
          unfold Does
          go_simp
          refine (count_calls f _).mono ?_
          rintro e w2 ⟨rfl, hb⟩
          exact ⟨_, rfl, by rw [count_words]; rfl, WBm HW.out hb, hb⟩
        · intro ρ w1 hF hW
          have HW := hidden hW
          clear hW
          have e79 : ρ 79 = .int .i64 (elems f).length := hF 79 (by decide)
          have e81 : ρ 81 = .int .i64 (elems f).length := hF 81 (by decide)
          clear hF
          unfold Does
          go_simp
          exact ⟨rfl, HW.out, Below.refl _ _⟩
        · intro ρ w1 hF hW
          have HW := hidden hW
          clear hW
          have e78 : ρ 78 = .bool true := hF 78 (by decide)
          have e82 : ρ 82 = .bool true := hF 82 (by decide)
          clear hF
          unfold Does
          go_simp
          exact ⟨rfl, HW.out, Below.refl _ _⟩
        · intro ρ w1 hF hW
          have HW := hidden hW
          clear hW
          have e83 : ρ 83 = .bool true := hF 83 (by decide)
          clear hF
          unfold Does
          go_simp
          exact ⟨rfl, HW.out, Below.refl _ _⟩
        · intro ρ w1 hF hW
          have HW := hidden hW
          clear hW
          have e5 : ρ 5 = .int .i64 (elems f).length := hF 5 (by decide)
          clear hF
          unfold Does
          go_simp
          exact ⟨rfl, HW.out, Below.refl _ _⟩
        · intro ρ w1 hF hW
          have HW := hidden hW
          clear hW
          have e1 : ρ 1 = .pointer (some ⟨w.heap.size, 0, none⟩) := hF 1 (by decide)
          clear hF
          obtain ⟨c0, c1, c2, c3, _, _, _, _⟩ := HW.out.1.facts
          unfold Does
          go_simp
          exact ⟨rfl, HW.out, Below.refl _ _⟩
        · intro ρ w1 hF hW
          have HW := hidden hW
          clear hW
          have e86 : ρ 86 = (.agg #[.int .u64 (word (f) 0), .int .u64 (word (f) 1), .int .u64 (word (f) 2), .int .u64 (word (f) 3)]) := hF 86 (by decide)
          clear hF
          unfold Does
          go_simp
          refine (bytes_calls f _ (HT.out.below HW.out.2.2)).mono ?_
          rintro e w2 ⟨v, rfl, hown, hb⟩
          exact ⟨_, rfl, rowLen_row hown, WBm HW.out hb, hb⟩
        · intro ρ w1 hF hW
          have HW := hidden hW
          clear hW
          obtain ⟨a87, c87, e87⟩ : ∃ a c, ρ 87 = .slice a (elems f).length c := hF 87 (by decide)
          clear hF
          unfold Does
          go_simp
          exact ⟨rfl, HW.out, Below.refl _ _⟩
        · intro ρ w1 hF hW
          have HW := hidden hW
          clear hW
          have e85 : ρ 85 = .int .i64 (elems f).length := hF 85 (by decide)
          have e88 : ρ 88 = .int .i64 (elems f).length := hF 88 (by decide)
          clear hF
          unfold Does
          go_simp
          exact ⟨rfl, HW.out, Below.refl _ _⟩
        · intro ρ w1 hF hW
          have HW := hidden hW
          clear hW
          have e84 : ρ 84 = .bool true := hF 84 (by decide)
          have e89 : ρ 89 = .bool true := hF 89 (by decide)
          clear hF
          unfold Does
          go_simp
          exact ⟨rfl, HW.out, Below.refl _ _⟩
        · intro ρ w1 hF hW
          have HW := hidden hW
          clear hW
          have e90 : ρ 90 = .bool true := hF 90 (by decide)
          clear hF
          unfold Does
          go_simp
          exact ⟨rfl, HW.out, Below.refl _ _⟩
        · intro ρ w1 hF hW
          have HW := hidden hW
          clear hW
          clear hF
          unfold Does
          go_simp
          refine (knows_calls _ (HT.out.below HW.out.2.2)).mono ?_
          rintro e w2 ⟨rfl, hb⟩
          exact ⟨_, rfl, rfl, WBm HW.out hb, hb⟩
        · intro ρ w1 hF hW
          have HW := hidden hW
          clear hW
          have e91 : ρ 91 = .bool true := hF 91 (by decide)
          have e92 : ρ 92 = .bool true := hF 92 (by decide)
          clear hF
          unfold Does
          go_simp
          exact ⟨rfl, HW.out, Below.refl _ _⟩
        · intro ρ w1 hF hW
          have HW := hidden hW
          clear hW
          have e93 : ρ 93 = .bool true := hF 93 (by decide)
          clear hF
          unfold Does
          go_simp
          exact ⟨rfl, HW.out, Below.refl _ _⟩


set_option maxRecDepth 100000 in
theorem lifted (os : Os) (started : os.Started) (H : Type) (enc : TypeId × Value → H) :
    ReturnsInHanded {} Tryd.checked os 7 .any (fun w args => (Rows.bsetBackSpec.pre enc Tryd.prog Tryd.f7 Rows.bsetBackRow.domain false w args ∧ laidMetH Tryd.prog [("math/bits.deBruijn64tab", Rows.laid_math_bits_deBruijn64tab)] w) ∧ sizedMet enc Tryd.prog Tryd.f7 (OpenSpec.ofChange Rows.bsetBackSpec) false w args)
      (Rows.bsetBackSpec.post enc Tryd.prog Tryd.f7 false true false false) := by
  refine returnsInHanded_of_change_and (C := Tryd.checked) (X := fun w _ => laidMetH Tryd.prog [("math/bits.deBruijn64tab", Rows.laid_math_bits_deBruijn64tab)] w) (fun _ _ _ hh h => h.of_heap hh) own started (by kernel_rfl) Tryd.func7
    (ChangeSpec.witness_shaped (enc := enc) (C := Tryd.checked) (os := os) (X := fun w _ => laidMetH Tryd.prog [("math/bits.deBruijn64tab", Rows.laid_math_bits_deBruijn64tab)] w) false (World.laidAll Tryd.prog os [("math/bits.deBruijn64tab", Rows.laid_math_bits_deBruijn64tab)]) #[.agg #[.int .u64 0, .int .u64 0, .int .u64 0, .int .u64 0]] 8 (World.laidAll_os _ _ _)
      (World.shaped_of_ZipB (by kernel_rfl) (by kernel_rfl)) (by kernel_rfl) (by kernel_rfl) (by kernel_rfl)
      (by rw [MakeChecks.laidMetH_plain _ _ _ (by kernel_rfl)]; exact laidMet_laidAll _ (by kernel_rfl) (by kernel_rfl))) ?_
  intro W base args ds gs before hval0 hW hcnd _ hL _
  have hval : ∀ (j : Nat) t v, Tryd.f7.params[j]? = some t → args[j]? = some v → Value.okWide Tryd.prog W .any base t v := hval0
  have hW' : DataW.Whole enc Tryd.prog Tryd.f7.params.toList Rows.bsetBackSpec.vars false W args.toList ds gs before := hW
  obtain ⟨p, q, hA0, hV, rfl, hfz, hnd⟩ := hW
  have hA : DataW.TrodAll enc Tryd.prog W 0 (fun _ => true) true Tryd.f7.params.toList args.toList ds p := hA0
  have ht : Tab W := of_laid (by kernel_rfl) hL
  rw [Tryd.params7] at hA hval
  obtain ⟨v0, vs0, d0, ds0, p0, q0, hargs, hd0, hp0, h0, r0⟩ := trodAll_cons hA
  obtain ⟨rfl, _, _⟩ := trodAll_nil r0
  obtain rfl : args = #[v0] := by cases args; simp_all
  obtain ⟨a0, rfl⟩ := open_set (hval 0 24 v0 rfl rfl) h0
  refine (walk a0 W ht).mono fun e W' ⟨he, hb⟩ => ⟨_, he, ends_true hW' rfl (by kernel_rfl) ?_ (by kernel_rfl) hb⟩
  intro xs hxs
  match xs, hxs with
  | [_], _ => rfl

theorem proved : Rows.BsetBackSaid :=
  OpenClaim.holds_of_wide 7 Tryd.f7 rfl rfl rfl rfl rfl rfl rfl ⟨rfl, rfl, rfl, rfl, rfl⟩ rfl rfl rfl rfl rfl (by kernel_rfl) Tryd.func7 (by kernel_rfl)
    (of_decide_eq_true (by kernel_rfl)) (by unfold Func.isWrapper; first | (rw [if_pos (by decide +kernel)]; kernel_rfl) | (rw [if_neg (by decide +kernel)]; exact ⟨rfl, rfl⟩))
    (fun os started H enc _ => lifted os started H enc)

/-- the card: the row, and what it lists tied to the program's text -/
theorem card : Rows.BsetBackCardSaid :=
  Claim7.holds_tied_plain_at .later [] [.data] true (true, "f8465798789d2ebf5eadbdb88a9c49c3ba1d5e7ffe9215b4693a7ae1d8653d21") false
    proved (fun _ h => by cases h) (by kernel_rfl) (fun _ h => by cases h) bsetBack_row_tie rfl ⟨rfl, rfl⟩ (by kernel_rfl) rfl
    (fun f fn hf hfn => by
      obtain rfl : f = 7 := Option.some.inj ((show Tryd.prog.funcNamed "facsimile/facsimilelaw02.BsetBack" = some 7 by kernel_rfl).symm.trans hf) |>.symm
      obtain rfl : fn = Tryd.f7 := (Option.some.inj (Tryd.func7.symm.trans hfn)).symm
      exact ⟨by kernel_rfl, fun j t ht => by
        rw [Tryd.params7] at ht
        have hm : t ∈ [24] := by simpa using Array.mem_of_getElem? ht
        have hall : ([24].all fun u => !Tryd.prog.wantsStandIn u) = true := by kernel_rfl
        exact (show Tryd.prog.wantsStandIn t = false by simpa using List.all_eq_true.1 hall t hm)⟩)
    (by kernel_rfl)
end Go.Proofs.YtfnpepmbklclfaaDoor.lawBsetBack
