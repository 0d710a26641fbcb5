/- SpEnds, FuNet, DfObj, DfFind, put together. -/
import Derived.Test.YtgaadndhecokfaaMu08
import Derived.Test.YtgaadndhecokfaaMu09
import Derived.Test.YtgaadndhecokfaaMu11
import Derived.Test.YtgaadndhecokfaaMu05
import Derived.Test.YtgaadndhecokfaaMu06
import Derived.Test.YtgaadndhecokfaaMu07
import Derived.Test.YtgaadndhecokfaaMu01
import Derived.Test.YtgaadndhecokfaaMu03
/- Contract of the reference's ends, at the steps of a tree. -/
namespace Go.Proofs.Ytgaadndhecokfaa
open Go.RowKit Go.Lib Go.Joins
/-- the spots with which spellings of a tree begin, or end, as the reference lists them -/
def endE (last : Bool) : Ex → Nat → List Nat
  | .set _, n => [n]
  | .emp, _ => []
  | .un _ a, n => endE last a n
  | .alt a c, n => endE last a n ++ endE last c (n + plc a)
  | .cat a c, n => if last then (if nul c then endE last a n ++ endE last c (n + plc a) else endE last c (n + plc a)) else (if nul a then endE last a n ++ endE last c (n + plc a) else endE last a n)
theorem endE_len (last : Bool) : ∀ (e : Ex) (n : Nat), (endE last e n).length ≤ plc e
  | .set _, n => Nat.le_refl _
  | .emp, _ => Nat.le_refl _
  | .un _ a, n => endE_len last a n
  | .alt a c, n => by
    have h1 := endE_len last a n
    have h2 := endE_len last c (n + plc a)
    simp only [endE, plc, List.length_append]; omega
  | .cat a c, n => by
    have h1 := endE_len last a n
    have h2 := endE_len last c (n + plc a)
    simp only [endE, plc]
    split <;> split <;> (try simp only [List.length_append]) <;> omega
theorem endE_in (last : Bool) : ∀ (e : Ex) (n p : Nat), p ∈ endE last e n → n ≤ p ∧ p < n + plc e
  | .set _, n, p, h => by simp [endE] at h; simp [plc]; omega
  | .emp, _, p, h => by simp [endE] at h
  | .un _ a, n, p, h => endE_in last a n p h
  | .alt a c, n, p, h => by
    simp only [endE, List.mem_append] at h
    simp only [plc]
    rcases h with h | h
    · have := endE_in last a n p h; omega
    · have := endE_in last c _ p h; omega
  | .cat a c, n, p, h => by
    have h' : p ∈ endE last a n ∨ p ∈ endE last c (n + plc a) := by
      simp only [endE] at h
      split at h <;> split at h <;> (try simp only [List.mem_append] at h) <;> first | exact h | exact .inl h | exact .inr h
    simp only [plc]
    rcases h' with h | h
    · have := endE_in last a n p h; omega
    · have := endE_in last c _ p h; omega
theorem endE_mem (last : Bool) : ∀ (e : Ex) (n p : Nat), p ∈ endE last e n ↔ (if last then gL e n p else gF e n p) = true
  | .set _, n, p => by cases last <;> simp [endE, gF, gL, fOne]
  | .emp, _, p => by cases last <;> simp [endE, gF, gL, fNone]
  | .un _ a, n, p => by have := endE_mem last a n p; cases last <;> simpa [endE, gF, gL] using this
  | .alt a c, n, p => by
    have h1 := endE_mem last a n p
    have h2 := endE_mem last c (n + plc a) p
    cases last
    · simp only [endE, gF, List.mem_append] at *
      simp [h1, h2, f2]
    · simp only [endE, gL, List.mem_append] at *
      simp [h1, h2, f2]
  | .cat a c, n, p => by
    have h1 := endE_mem last a n p
    have h2 := endE_mem last c (n + plc a) p
    cases last
    · simp only [endE, gF] at *
      cases nul a
      · simpa using h1
      · simp at h1 h2; simp [h1, h2, f2]
    · simp only [endE, gL] at *
      cases nul c
      · simpa using h2
      · simp at h1 h2; simp [h1, h2, f2]
theorem endE_up (last : Bool) : ∀ (e : Ex) (n : Nat), (endE last e n).Pairwise (· < ·)
  | .set _, n => by simp [endE]
  | .emp, _ => by simp [endE]
  | .un _ a, n => endE_up last a n
  | .alt a c, n => by
    simp only [endE]
    exact List.pairwise_append.2 ⟨endE_up last a n, endE_up last c _, fun p hp q hq => by have := endE_in last a n p hp; have := endE_in last c _ q hq; omega⟩
  | .cat a c, n => by
    have h : (endE last a n ++ endE last c (n + plc a)).Pairwise (· < ·) := List.pairwise_append.2 ⟨endE_up last a n, endE_up last c _, fun p hp q hq => by have := endE_in last a n p hp; have := endE_in last c _ q hq; omega⟩
    simp only [endE]
    split <;> split
    · exact h
    · exact endE_up last c _
    · exact h
    · exact endE_up last a n
/-- two rising lists of the same numbers are the same -/
theorem nup_ext : ∀ {a b : List Nat}, a.Pairwise (· < ·) → b.Pairwise (· < ·) → (∀ p, p ∈ a ↔ p ∈ b) → a = b
  | [], [], _, _, _ => rfl
  | [], y :: b, _, _, h => by have := (h y).2 (by simp); simp at this
  | x :: a, [], _, _, h => by have := (h x).1 (by simp); simp at this
  | x :: a, y :: b, ha, hb, h => by
    obtain ⟨ha1, ha2⟩ := List.pairwise_cons.1 ha
    obtain ⟨hb1, hb2⟩ := List.pairwise_cons.1 hb
    have hxy : x = y := by
      have h1 := (h x).1 (by simp)
      have h2 := (h y).2 (by simp)
      simp only [List.mem_cons] at h1 h2
      rcases h1 with h1 | h1
      · exact h1
      · rcases h2 with h2 | h2
        · exact h2.symm
        · have := hb1 x h1; have := ha1 y h2; omega
    subst hxy
    congr 1
    refine nup_ext ha2 hb2 fun p => ?_
    have h1 := h p
    simp only [List.mem_cons] at h1
    constructor
    · intro hp
      have := ha1 p hp
      rcases h1.1 (.inr hp) with h2 | h2
      · omega
      · exact h2
    · intro hp
      have := hb1 p hp
      rcases h1.2 (.inr hp) with h2 | h2
      · omega
      · exact h2
theorem elems_up (f : Nat → Bool) : (elems f).Pairwise (· < ·) := List.Pairwise.filter _ List.pairwise_lt_range
theorem elems_mem (f : Nat → Bool) (p : Nat) : p ∈ elems f ↔ p < 256 ∧ f p = true := by unfold elems; simp
theorem endE_elems {last : Bool} {e : Ex} {n : Nat} (h : n + plc e ≤ 256) : elems (if last then gL e n else gF e n) = endE last e n := by
  refine nup_ext (elems_up _) (endE_up last e n) fun p => ?_
  rw [elems_mem, endE_mem]
  cases last
  · simp only [Bool.false_eq_true, if_false]
    exact ⟨fun h => h.2, fun k => ⟨by have := gF_in e n p k; omega, k⟩⟩
  · simp only [if_true]
    exact ⟨fun h => h.2, fun k => ⟨by have := gL_in e n p k; omega, k⟩⟩
theorem sets_ops : ∀ e : Ex, e.ok → (sets (ops e)).length = plc e
  | .set _, _ => rfl
  | .emp, _ => rfl
  | .un k a, ⟨hk, ha⟩ => by
    have h := sets_ops a ha
    unfold sets at *
    simp only [ops, plc, List.filter_append, List.length_append, h]
    rcases hk with rfl | rfl | rfl <;> rfl
  | .alt a c, ⟨ha, hc⟩ => by
    have h := sets_ops a ha
    have h' := sets_ops c hc
    unfold sets at *
    simp only [ops, plc, List.filter_append, List.length_append, h, h']
    rfl
  | .cat a c, ⟨ha, hc⟩ => by
    have h := sets_ops a ha
    have h' := sets_ops c hc
    unfold sets at *
    simp only [ops, plc, List.filter_append, List.length_append, h, h']
    rfl
theorem sets_append (a b : List Stp) : sets (a ++ b) = sets a ++ sets b := List.filter_append ..
theorem RowZ.one (w : World) (n : Int) (b : Nat) (hb : b = w.heap.size) : RowZ (w.alloc (.cells #[.int .i64 n] 3)) w.heap.size (.slice (some ⟨b, 0, none⟩) 1 1) [n] := by
  subst hb
  exact World.ownsRow_lit (e := 3) (size := 1) w #[.int .i64 n] 1 (Nat.le_refl _) (by decide) rfl
section
variable {b off cap : Nat} {L : List Stp}
def TellZ (b off cap : Nat) (L : List Stp) (last : Bool) (i : Nat) (l : List Int) : Prop := ∀ w, Lay b off L w → Calls Try.prog 57 #[.slice (some ⟨b, off, none⟩) L.length cap, .int .i64 i, .bool last] w (RetZ w l)
theorem Lay.sl {w : World} (h : Lay b off L w) (hc : L.length ≤ cap) (hm : cap ≤ maxLen) : SlX (fun x => x < w.heap.size) w (.slice (some ⟨b, off, none⟩) L.length cap) L :=
  ⟨some ⟨b, off, none⟩, cap, rfl, hc, hm, (fun e => by cases e), rfl, fun _ => ⟨b, off, rfl, h.1, h.2⟩⟩
set_option maxRecDepth 100000 in
theorem rendSet {i : Nat} {last : Bool} {c : Nat} (hi : i < L.length) (hk : (L.getD i default).k = 1) (hl : L.length ≤ 512) (hc : L.length ≤ cap) (hm : cap ≤ maxLen) (hn : cnt L i = c) : TellZ b off cap L last i [(c : Int)] := by
  intro w h
  have c0 := h.kind hi hk
  have HN := hidden (number_calls (h.sl hc hm) (Nat.le_of_lt hi) hl)
  rw [hn] at HN
  have HR := hidden (RowZ.one w (c : Int) w.heap.size rfl)
  have HB := hidden ((Below.refl w.heap.size w).alloc (Nat.le_refl _) (.cells #[.int .i64 (c : Int)] 3))
  generalize L.length = n at *
  clear h hk hn
  go_enter Try.func57, Try.ntmps57
  go_wp2_with fail
  refine HN.out.mono ?_
  rintro e w1 ⟨rfl, rfl⟩
  go_wp2
  go_ret
  exact ⟨_, rfl, HR.out, HB.out⟩
set_option maxRecDepth 100000 in
theorem rendEmp {i : Nat} {last : Bool} (hi : i < L.length) (hk : (L.getD i default).k = 2) : TellZ b off cap L last i [] := by
  intro w h
  have c0 := h.kind hi hk
  have HR := hidden (RowZ.lit w w.heap.size rfl #[] rfl)
  have HB := hidden ((Below.refl w.heap.size w).alloc (Nat.le_refl _) (.cells #[] 3))
  generalize L.length = n at *
  clear h hk
  go_enter Try.func57, Try.ntmps57
  go_wp2
  go_ret
  exact ⟨_, rfl, HR.out, HB.out⟩
set_option maxRecDepth 100000 in
theorem rendUn {i j : Nat} {last : Bool} {k : Int} {X : List Int} (hi : i < L.length) (hk : (L.getD i default).k = k) (hk2 : k = 5 ∨ k = 6 ∨ k = 7) (hj : j + 1 = i) (hl : L.length ≤ 1000) (HA : TellZ b off cap L last j X) : TellZ b off cap L last i X := by
  intro w h
  have c0 := h.kind hi hk
  have HAA := hidden (HA w h)
  have hsub : IntKind.i64.wrap ((i : Int) - 1) = j := by rw [IntKind.wrap_i64]; omega
  generalize L.length = n at *
  clear h hk hj HA
  rcases hk2 with rfl | rfl | rfl
  all_goals
    go_enter Try.func57, Try.ntmps57
    go_wp2_with fail
    refine HAA.out.mono ?_
    rintro e w1 ⟨v, rfl, hr, hb⟩
    go_wp2
    go_ret
    exact ⟨_, rfl, hr, hb⟩
set_option maxHeartbeats 4000000 in
set_option maxRecDepth 100000 in
theorem rendCatL {i j y l : Nat} {X Y : List Int} {f : Bool} (hi : i < L.length) (hk : (L.getD i default).k = 3) (hj : j + 1 = i) (hy : l + 1 = y) (hl : L.length ≤ 1000) (hyl : y ≤ 1000) (hX : X.length ≤ 1000) (hY : Y.length ≤ 1000)
    (HA : TellZ b off cap L true l X) (HC : TellZ b off cap L true j Y) (HB : Begins b off cap L j y) (HF : Tell b off cap L 75 j (.bool f)) : TellZ b off cap L true i (if f then X ++ Y else Y) := by
  intro w h
  have c0 := h.kind hi hk
  have HLY := hidden h
  have HAA := hidden HA
  have HCC := hidden HC
  have HBB := hidden HB
  have HFF := hidden HF
  have hsub : IntKind.i64.wrap ((i : Int) - 1) = j := by rw [IntKind.wrap_i64]; omega
  have hsub2 : IntKind.i64.wrap ((y : Int) - 1) = l := by rw [IntKind.wrap_i64]; omega
  generalize hn : L.length = n at *
  have HNN := hidden hn
  clear h hk hj HA HC HB HF hy hn
  cases f
  case false =>
    rw [if_neg (by decide)]
    go_enter Try.func57, Try.ntmps57
    go_wp2_with fail
    rw [← HNN.out]
    refine (HCC.out w HLY.out).mono ?_
    rintro e w1 ⟨vb, rfl, hr1, hb1⟩
    have HR1 := hidden hr1
    have HB1 := hidden hb1
    have HL1 := hidden (HLY.out.below hb1)
    obtain ⟨a1, c1, rfl⟩ := hr1.form
    rw [HNN.out]
    clear hr1 hb1
    go_wp2_with fail
    rw [← HNN.out]
    refine (HBB.out w1 HL1.out).mono ?_
    rintro e w2 ⟨rfl, rfl⟩
    rw [HNN.out]
    go_wp2_with fail
    rw [← HNN.out]
    refine (HAA.out w1 HL1.out).mono ?_
    rintro e w2 ⟨va, rfl, hr2, hb2⟩
    have HR2 := hidden hr2
    have HR1' := hidden (HR1.out.kept hb2)
    have HB2 := hidden (below_after HB1.out hb2)
    have HL2 := hidden (HL1.out.below hb2)
    obtain ⟨a2, c2, rfl⟩ := hr2.form
    rw [HNN.out]
    clear hr2 hb2
    go_wp2_with fail
    rw [← HNN.out]
    refine (HFF.out w2 HL2.out).mono ?_
    rintro e w3 ⟨rfl, rfl⟩
    rw [HNN.out]
    go_wp2
    go_ret
    exact ⟨_, rfl, HR1'.out, HB2.out⟩
  case true =>
    rw [if_pos rfl]
    go_enter Try.func57, Try.ntmps57
    go_wp2_with fail
    rw [← HNN.out]
    refine (HCC.out w HLY.out).mono ?_
    rintro e w1 ⟨vb, rfl, hr1, hb1⟩
    have HR1 := hidden hr1
    have HB1 := hidden hb1
    have HL1 := hidden (HLY.out.below hb1)
    obtain ⟨a1, c1, rfl⟩ := hr1.form
    rw [HNN.out]
    clear hr1 hb1
    go_wp2_with fail
    rw [← HNN.out]
    refine (HBB.out w1 HL1.out).mono ?_
    rintro e w2 ⟨rfl, rfl⟩
    rw [HNN.out]
    go_wp2_with fail
    rw [← HNN.out]
    refine (HAA.out w1 HL1.out).mono ?_
    rintro e w2 ⟨va, rfl, hr2, hb2⟩
    have HR2 := hidden hr2
    have HR1' := hidden (HR1.out.kept hb2)
    have HB2 := hidden (below_after HB1.out hb2)
    have HL2 := hidden (HL1.out.below hb2)
    obtain ⟨a2, c2, rfl⟩ := hr2.form
    rw [HNN.out]
    clear hr2 hb2
    go_wp2_with fail
    rw [← HNN.out]
    refine (HFF.out w2 HL2.out).mono ?_
    rintro e w3 ⟨rfl, rfl⟩
    rw [HNN.out]
    go_wp2_with (at_builtin; refine app_zz rfl _ _ rfl rfl (HR2.out.lower HB1.out.size) rfl HR1'.out.reads (by omega) HB2.out.size ?_; intro a3 l3 c3 w4 hr4 hg4 hb4; have HR4 := hidden hr4; have HB4 := hidden (show Below w.heap.size w w4 from HB2.out.trans (hb4.mono (Nat.le_refl _))); clear hr4 hg4 hb4)
    go_ret
    exact ⟨_, rfl, HR4.out, HB4.out⟩
set_option maxHeartbeats 4000000 in
set_option maxRecDepth 100000 in
theorem rendCatF {i j y l : Nat} {X Y : List Int} {f : Bool} (hi : i < L.length) (hk : (L.getD i default).k = 3) (hj : j + 1 = i) (hy : l + 1 = y) (hl : L.length ≤ 1000) (hyl : y ≤ 1000) (hX : X.length ≤ 1000) (hY : Y.length ≤ 1000)
    (HA : TellZ b off cap L false l X) (HC : TellZ b off cap L false j Y) (HB : Begins b off cap L j y) (HF : Tell b off cap L 75 l (.bool f)) : TellZ b off cap L false i (if f then X ++ Y else X) := by
  intro w h
  have c0 := h.kind hi hk
  have HLY := hidden h
  have HAA := hidden HA
  have HCC := hidden HC
  have HBB := hidden HB
  have HFF := hidden HF
  have hsub : IntKind.i64.wrap ((i : Int) - 1) = j := by rw [IntKind.wrap_i64]; omega
  have hsub2 : IntKind.i64.wrap ((y : Int) - 1) = l := by rw [IntKind.wrap_i64]; omega
  generalize hn : L.length = n at *
  have HNN := hidden hn
  clear h hk hj HA HC HB HF hy hn
  cases f
  case false =>
    rw [if_neg (by decide)]
    go_enter Try.func57, Try.ntmps57
    go_wp2_with fail
    rw [← HNN.out]
    refine (HCC.out w HLY.out).mono ?_
    rintro e w1 ⟨vb, rfl, hr1, hb1⟩
    have HR1 := hidden hr1
    have HB1 := hidden hb1
    have HL1 := hidden (HLY.out.below hb1)
    obtain ⟨a1, c1, rfl⟩ := hr1.form
    rw [HNN.out]
    clear hr1 hb1
    go_wp2_with fail
    rw [← HNN.out]
    refine (HBB.out w1 HL1.out).mono ?_
    rintro e w2 ⟨rfl, rfl⟩
    rw [HNN.out]
    go_wp2_with fail
    rw [← HNN.out]
    refine (HAA.out w1 HL1.out).mono ?_
    rintro e w2 ⟨va, rfl, hr2, hb2⟩
    have HR2 := hidden hr2
    have HR1' := hidden (HR1.out.kept hb2)
    have HB2 := hidden (below_after HB1.out hb2)
    have HL2 := hidden (HL1.out.below hb2)
    obtain ⟨a2, c2, rfl⟩ := hr2.form
    rw [HNN.out]
    clear hr2 hb2
    go_wp2_with fail
    rw [← HNN.out]
    refine (HFF.out w2 HL2.out).mono ?_
    rintro e w3 ⟨rfl, rfl⟩
    rw [HNN.out]
    go_wp2
    go_ret
    exact ⟨_, rfl, HR2.out.lower HB1.out.size, HB2.out⟩
  case true =>
    rw [if_pos rfl]
    go_enter Try.func57, Try.ntmps57
    go_wp2_with fail
    rw [← HNN.out]
    refine (HCC.out w HLY.out).mono ?_
    rintro e w1 ⟨vb, rfl, hr1, hb1⟩
    have HR1 := hidden hr1
    have HB1 := hidden hb1
    have HL1 := hidden (HLY.out.below hb1)
    obtain ⟨a1, c1, rfl⟩ := hr1.form
    rw [HNN.out]
    clear hr1 hb1
    go_wp2_with fail
    rw [← HNN.out]
    refine (HBB.out w1 HL1.out).mono ?_
    rintro e w2 ⟨rfl, rfl⟩
    rw [HNN.out]
    go_wp2_with fail
    rw [← HNN.out]
    refine (HAA.out w1 HL1.out).mono ?_
    rintro e w2 ⟨va, rfl, hr2, hb2⟩
    have HR2 := hidden hr2
    have HR1' := hidden (HR1.out.kept hb2)
    have HB2 := hidden (below_after HB1.out hb2)
    have HL2 := hidden (HL1.out.below hb2)
    obtain ⟨a2, c2, rfl⟩ := hr2.form
    rw [HNN.out]
    clear hr2 hb2
    go_wp2_with fail
    rw [← HNN.out]
    refine (HFF.out w2 HL2.out).mono ?_
    rintro e w3 ⟨rfl, rfl⟩
    rw [HNN.out]
    go_wp2_with (at_builtin; refine app_zz rfl _ _ rfl rfl (HR2.out.lower HB1.out.size) rfl HR1'.out.reads (by omega) HB2.out.size ?_; intro a3 l3 c3 w4 hr4 hg4 hb4; have HR4 := hidden hr4; have HB4 := hidden (show Below w.heap.size w w4 from HB2.out.trans (hb4.mono (Nat.le_refl _))); clear hr4 hg4 hb4)
    go_ret
    exact ⟨_, rfl, HR4.out, HB4.out⟩
set_option maxHeartbeats 4000000 in
set_option maxRecDepth 100000 in
theorem rendAlt {i j y l : Nat} {X Y : List Int} {last : Bool} (hi : i < L.length) (hk : (L.getD i default).k = 4) (hj : j + 1 = i) (hy : l + 1 = y) (hl : L.length ≤ 1000) (hyl : y ≤ 1000) (hX : X.length ≤ 1000) (hY : Y.length ≤ 1000)
    (HA : TellZ b off cap L last l X) (HC : TellZ b off cap L last j Y) (HB : Begins b off cap L j y)  : TellZ b off cap L last i (X ++ Y) := by
  intro w h
  have c0 := h.kind hi hk
  have HLY := hidden h
  have HAA := hidden HA
  have HCC := hidden HC
  have HBB := hidden HB
  have hsub : IntKind.i64.wrap ((i : Int) - 1) = j := by rw [IntKind.wrap_i64]; omega
  have hsub2 : IntKind.i64.wrap ((y : Int) - 1) = l := by rw [IntKind.wrap_i64]; omega
  generalize hn : L.length = n at *
  have HNN := hidden hn
  clear h hk hj HA HC HB hy hn
  cases last
  all_goals
    go_enter Try.func57, Try.ntmps57
    go_wp2_with fail
    rw [← HNN.out]
    refine (HCC.out w HLY.out).mono ?_
    rintro e w1 ⟨vb, rfl, hr1, hb1⟩
    have HR1 := hidden hr1
    have HB1 := hidden hb1
    have HL1 := hidden (HLY.out.below hb1)
    obtain ⟨a1, c1, rfl⟩ := hr1.form
    rw [HNN.out]
    clear hr1 hb1
    go_wp2_with fail
    rw [← HNN.out]
    refine (HBB.out w1 HL1.out).mono ?_
    rintro e w2 ⟨rfl, rfl⟩
    rw [HNN.out]
    go_wp2_with fail
    rw [← HNN.out]
    refine (HAA.out w1 HL1.out).mono ?_
    rintro e w2 ⟨va, rfl, hr2, hb2⟩
    have HR2 := hidden hr2
    have HR1' := hidden (HR1.out.kept hb2)
    have HB2 := hidden (below_after HB1.out hb2)
    have HL2 := hidden (HL1.out.below hb2)
    obtain ⟨a2, c2, rfl⟩ := hr2.form
    rw [HNN.out]
    clear hr2 hb2
    go_wp2_with (at_builtin; refine app_zz rfl _ _ rfl rfl (HR2.out.lower HB1.out.size) rfl HR1'.out.reads (by omega) HB2.out.size ?_; intro a3 l3 c3 w4 hr4 hg4 hb4; have HR4 := hidden hr4; have HB4 := hidden (show Below w.heap.size w w4 from HB2.out.trans (hb4.mono (Nat.le_refl _))); clear hr4 hg4 hb4)
    go_ret
    exact ⟨_, rfl, HR4.out, HB4.out⟩
theorem spI_append (a b : List Nat) : spI (a ++ b) = spI a ++ spI b := by unfold spI; exact List.map_append
theorem spI_nil : spI [] = [] := by unfold spI; rfl
theorem spI_one (n : Nat) : spI [n] = [(n : Int)] := by unfold spI; rfl
theorem cnt_part {x y : List Stp} : cnt (x ++ y) x.length = (sets x).length := by
  unfold cnt
  rw [List.take_left]
theorem part_len {e : Ex} {x z : List Stp} {last : Bool} {n : Nat} (hL : L = x ++ ops e ++ z) (hl : L.length ≤ 1000) : (spI (endE last e n)).length ≤ 1000 := by
  rw [spI_len]
  have h1 := endE_len last e n
  have h2 := plc_ops e
  have h3 := ops_pos e
  rw [hL] at hl
  simp only [List.length_append] at hl
  omega
theorem rends (last : Bool) (hl : L.length ≤ 512) (hc : L.length ≤ cap) (hm : cap ≤ maxLen) : ∀ (e : Ex), e.ok → ∀ (x z : List Stp) (i : Nat), L = x ++ ops e ++ z → i + 1 = x.length + (ops e).length → TellZ b off cap L last i (spI (endE last e (sets x).length))
  | .set f, _, x, z, i, hL, hi => by
    have hi' : i = x.length := by simp [ops] at hi; omega
    have h1 := at_end hL hi
    rw [endE, spI_one]
    refine rendSet h1.1 h1.2 hl hc hm ?_
    rw [hi', hL, List.append_assoc]
    exact cnt_part
  | .emp, _, x, z, i, hL, hi => by
    rw [endE, spI_nil]
    exact rendEmp (at_end hL hi).1 (at_end hL hi).2
  | .un k a, ⟨hk, ha⟩, x, z, i, hL, hi => by
    obtain ⟨h1, h2⟩ := at_end hL hi
    have hp := ops_pos a
    have hlen : (ops (.un k a)).length = (ops a).length + 1 := by simp [ops]
    exact rendUn (j := i - 1) h1 h2 hk (by omega) (by omega) (rends last hl hc hm a ha x ([kStp k] ++ z) (i - 1) (by rw [hL]; simp [ops]) (by omega))
  | .cat a c, ⟨ha, hcc⟩, x, z, i, hL, hi => by
    obtain ⟨h1, h2⟩ := at_end hL hi
    obtain ⟨⟨p1, p2⟩, ⟨p3, p4⟩, p5, p6, p7⟩ := two_parts (k := 3) (a := a) (c := c) rfl hL hi
    have hs : (sets (x ++ ops a)).length = (sets x).length + plc a := by rw [sets_append, List.length_append, sets_ops a ha]
    have HC := rends last hl hc hm c hcc _ _ _ p1 p2
    rw [hs] at HC
    have HA := rends last hl hc hm a ha _ _ _ p3 p4
    cases last
    · have := rendCatF (b := b) (off := off) (cap := cap) h1 h2 p5 p6 (by omega) (by omega) (part_len p3 (by omega)) (part_len p1 (by omega)) HA HC (begins hcc (by omega) p1 p2) (rfree (by omega) a ha _ _ _ p3 p4)
      simp only [endE]
      rw [if_neg (by decide)]
      split
      · rename_i hn
        rw [if_pos hn] at this
        rw [spI_append]; exact this
      · rename_i hn
        rw [if_neg hn] at this
        exact this
    · have := rendCatL (b := b) (off := off) (cap := cap) h1 h2 p5 p6 (by omega) (by omega) (part_len p3 (by omega)) (part_len p1 (by omega)) HA HC (begins hcc (by omega) p1 p2) (rfree (by omega) c hcc _ _ _ p1 p2)
      simp only [endE]
      rw [if_pos trivial]
      split
      · rename_i hn
        rw [if_pos hn] at this
        rw [spI_append]; exact this
      · rename_i hn
        rw [if_neg hn] at this
        exact this
  | .alt a c, ⟨ha, hcc⟩, x, z, i, hL, hi => by
    obtain ⟨h1, h2⟩ := at_end hL hi
    obtain ⟨⟨p1, p2⟩, ⟨p3, p4⟩, p5, p6, p7⟩ := two_parts (k := 4) (a := a) (c := c) rfl hL hi
    have hs : (sets (x ++ ops a)).length = (sets x).length + plc a := by rw [sets_append, List.length_append, sets_ops a ha]
    have HC := rends last hl hc hm c hcc _ _ _ p1 p2
    rw [hs] at HC
    have HA := rends last hl hc hm a ha _ _ _ p3 p4
    have := rendAlt (b := b) (off := off) (cap := cap) h1 h2 p5 p6 (by omega) (by omega) (part_len p3 (by omega)) (part_len p1 (by omega)) HA HC (begins hcc (by omega) p1 p2)
    simp only [endE]
    rw [spI_append]; exact this
end
end Go.Proofs.Ytgaadndhecokfaa

/- Nets as they are read: sets, numbers, flags, lists of numbers. -/
namespace Go.Proofs.Ytgaadndhecokfaa
open Go.RowKit Go.Lib Go.Joins
/-- a slice of sets that reads as these words -/
def RdS (B : Nat) (w : World) (v : Value) (S : List Stp) : Prop := ∃ a cap, v = .slice a S.length cap ∧ S.length ≤ cap ∧ cap ≤ maxLen ∧ (a = none → cap = 0) ∧ (0 < S.length → ∃ b off, a = some ⟨b, off, none⟩ ∧ b < B ∧ ∀ i, i < S.length → w.cell? ⟨b, off + i * 4, none⟩ = some (.int .u64 (S.getD i default).a) ∧ w.cell? ⟨b, off + i * 4 + 1, none⟩ = some (.int .u64 (S.getD i default).b) ∧ w.cell? ⟨b, off + i * 4 + 2, none⟩ = some (.int .u64 (S.getD i default).c) ∧ w.cell? ⟨b, off + i * 4 + 3, none⟩ = some (.int .u64 (S.getD i default).d))
/-- a slice of flags -/
def RdB (B : Nat) (w : World) (v : Value) (l : List Bool) : Prop := ∃ a cap, v = .slice a l.length cap ∧ l.length ≤ cap ∧ cap ≤ maxLen ∧ (a = none → cap = 0) ∧ (0 < l.length → ∃ b off, a = some ⟨b, off, none⟩ ∧ b < B ∧ ∀ i, i < l.length → w.cell? ⟨b, off + i, none⟩ = some (.bool (l.getD i false)))
/-- a slice of lists of numbers -/
def RdZZ (B : Nat) (w : World) (v : Value) (l : List (List Int)) : Prop := ∃ a cap, v = .slice a l.length cap ∧ l.length ≤ cap ∧ cap ≤ maxLen ∧ (a = none → cap = 0) ∧ (0 < l.length → ∃ b off, a = some ⟨b, off, none⟩ ∧ b < B ∧ ∀ i, i < l.length → ∃ u, w.cell? ⟨b, off + i, none⟩ = some u ∧ RdZ B w u (l.getD i []))
section
variable {B B' : Nat} {w w' : World} {v : Value}
theorem RdS.below {S : List Stp} (h : RdS B w v S) (hb : Below B w w') (hB : B ≤ B') : RdS B' w' v S := by
  obtain ⟨a, cap, rfl, h1, h2, h3, h4⟩ := h
  refine ⟨a, cap, rfl, h1, h2, h3, fun hp => ?_⟩
  obtain ⟨b, off, e, hlt, hc⟩ := h4 hp
  refine ⟨b, off, e, by omega, fun i hi => ?_⟩
  obtain ⟨x0, x1, x2, x3⟩ := hc i hi
  exact ⟨(hb.cell (p := ⟨b, off + i * 4, none⟩) hlt).trans x0, (hb.cell (p := ⟨b, off + i * 4 + 1, none⟩) hlt).trans x1, (hb.cell (p := ⟨b, off + i * 4 + 2, none⟩) hlt).trans x2, (hb.cell (p := ⟨b, off + i * 4 + 3, none⟩) hlt).trans x3⟩
theorem RdB.below {l : List Bool} (h : RdB B w v l) (hb : Below B w w') (hB : B ≤ B') : RdB B' w' v l := by
  obtain ⟨a, cap, rfl, h1, h2, h3, h4⟩ := h
  refine ⟨a, cap, rfl, h1, h2, h3, fun hp => ?_⟩
  obtain ⟨b, off, e, hlt, hc⟩ := h4 hp
  exact ⟨b, off, e, by omega, fun i hi => (hb.cell (p := ⟨b, off + i, none⟩) hlt).trans (hc i hi)⟩
theorem RdZZ.below {l : List (List Int)} (h : RdZZ B w v l) (hb : Below B w w') (hB : B ≤ B') : RdZZ B' w' v l := by
  obtain ⟨a, cap, rfl, h1, h2, h3, h4⟩ := h
  refine ⟨a, cap, rfl, h1, h2, h3, fun hp => ?_⟩
  obtain ⟨b, off, e, hlt, hc⟩ := h4 hp
  refine ⟨b, off, e, by omega, fun i hi => ?_⟩
  obtain ⟨u, hu, hr⟩ := hc i hi
  exact ⟨u, (hb.cell (p := ⟨b, off + i, none⟩) hlt).trans hu, hr.below hb hB⟩
theorem RdS.form {S : List Stp} (h : RdS B w v S) : ∃ a cap, v = .slice a S.length cap := by
  obtain ⟨a, cap, rfl, _⟩ := h
  exact ⟨a, cap, rfl⟩
theorem RdB.form {l : List Bool} (h : RdB B w v l) : ∃ a cap, v = .slice a l.length cap := by
  obtain ⟨a, cap, rfl, _⟩ := h
  exact ⟨a, cap, rfl⟩
theorem RdZZ.form {l : List (List Int)} (h : RdZZ B w v l) : ∃ a cap, v = .slice a l.length cap := by
  obtain ⟨a, cap, rfl, _⟩ := h
  exact ⟨a, cap, rfl⟩
end
/-- the cells of one element, in a later world -/
theorem RdS.at {B : Nat} {w w' : World} {a : Option Addr} {n c : Nat} {S : List Stp} (h : RdS B w (.slice a n c) S) (hb : Below B w w') (i : Nat) (hi : i < S.length) : ∃ b off, a = some ⟨b, off, none⟩ ∧ b < B ∧ w'.cell? ⟨b, off + i * 4, none⟩ = some (.int .u64 (S.getD i default).a) ∧ w'.cell? ⟨b, off + i * 4 + 1, none⟩ = some (.int .u64 (S.getD i default).b) ∧ w'.cell? ⟨b, off + i * 4 + 2, none⟩ = some (.int .u64 (S.getD i default).c) ∧ w'.cell? ⟨b, off + i * 4 + 3, none⟩ = some (.int .u64 (S.getD i default).d) := by
  obtain ⟨a', cap, e, _, _, _, h4⟩ := h.below hb (Nat.le_refl _)
  simp only [Value.slice.injEq] at e
  obtain ⟨rfl, _, _⟩ := e
  obtain ⟨b, off, e, hlt, hc⟩ := h4 (by omega)
  exact ⟨b, off, e, hlt, hc i hi⟩
theorem RdB.at {B : Nat} {w w' : World} {a : Option Addr} {n c : Nat} {l : List Bool} (h : RdB B w (.slice a n c) l) (hb : Below B w w') (i : Nat) (hi : i < l.length) : ∃ b off, a = some ⟨b, off, none⟩ ∧ b < B ∧ w'.cell? ⟨b, off + i, none⟩ = some (.bool (l.getD i false)) := by
  obtain ⟨a', cap, e, _, _, _, h4⟩ := h.below hb (Nat.le_refl _)
  simp only [Value.slice.injEq] at e
  obtain ⟨rfl, _, _⟩ := e
  obtain ⟨b, off, e, hlt, hc⟩ := h4 (by omega)
  exact ⟨b, off, e, hlt, hc i hi⟩
theorem RdZ.atZ {B : Nat} {w w' : World} {a : Option Addr} {n c : Nat} {l : List Int} (h : RdZ B w (.slice a n c) l) (hb : Below B w w') (i : Nat) (hi : i < l.length) : ∃ b off, a = some ⟨b, off, none⟩ ∧ b < B ∧ w'.cell? ⟨b, off + i, none⟩ = some (.int .i64 (l.getD i 0)) := by
  obtain ⟨a', cap, e, _, _, _, h4⟩ := h.below hb (Nat.le_refl _)
  simp only [Value.slice.injEq] at e
  obtain ⟨rfl, _, _⟩ := e
  obtain ⟨b, off, e, hlt, hc⟩ := h4 (by omega)
  exact ⟨b, off, e, hlt, hc i hi⟩
theorem RdZZ.at {B : Nat} {w w' : World} {a : Option Addr} {n c : Nat} {l : List (List Int)} (h : RdZZ B w (.slice a n c) l) (hb : Below B w w') (i : Nat) (hi : i < l.length) : ∃ b off a' c', a = some ⟨b, off, none⟩ ∧ b < B ∧ w'.cell? ⟨b, off + i, none⟩ = some (.slice a' (l.getD i []).length c') ∧ RdZ B w' (.slice a' (l.getD i []).length c') (l.getD i []) := by
  obtain ⟨a', cap, e, _, _, _, h4⟩ := h.below hb (Nat.le_refl _)
  simp only [Value.slice.injEq] at e
  obtain ⟨rfl, _, _⟩ := e
  obtain ⟨b, off, e, hlt, hc⟩ := h4 (by omega)
  obtain ⟨u, hu, hr⟩ := hc i hi
  obtain ⟨a', c', rfl⟩ := hr.form
  exact ⟨b, off, a', c', e, hlt, hu, hr⟩
/-- a net -/
structure NetM where
  sets : List Stp
  of : List Int
  last : List Bool
  fol : List (List Int)
  first : List Int
/-- five slices that read as a net -/
structure RdNet (B : Nat) (w : World) (vs vo vl vf v1 : Value) (N : NetM) : Prop where
  sets : RdS B w vs N.sets
  of : RdZ B w vo N.of
  last : RdB B w vl N.last
  fol : RdZZ B w vf N.fol
  first : RdZ B w v1 N.first
theorem RdNet.below {B B' : Nat} {w w' : World} {vs vo vl vf v1 : Value} {N : NetM} (h : RdNet B w vs vo vl vf v1 N) (hb : Below B w w') (hB : B ≤ B') : RdNet B' w' vs vo vl vf v1 N := ⟨h.sets.below hb hB, h.of.below hb hB, h.last.below hb hB, h.fol.below hb hB, h.first.below hb hB⟩
theorem RdNet.later {w w' : World} {vs vo vl vf v1 : Value} {N : NetM} (h : RdNet w.heap.size w vs vo vl vf v1 N) (hb : Below w.heap.size w w') : RdNet w'.heap.size w' vs vo vl vf v1 N := h.below hb hb.size
/-- the five cells of a net in a box -/
theorem net_box (w : World) (vs vo vl vf v1 : Value) (t : TypeId) : ∀ w', Below (w.heap.size + 1) (w.alloc (.cells #[vs, vo, vl, vf, v1] t)) w' → w'.cell? ⟨w.heap.size, 0, none⟩ = some vs ∧ w'.cell? ⟨w.heap.size, 1, none⟩ = some vo ∧ w'.cell? ⟨w.heap.size, 2, none⟩ = some vl ∧ w'.cell? ⟨w.heap.size, 3, none⟩ = some vf ∧ w'.cell? ⟨w.heap.size, 4, none⟩ = some v1 := fun w' hb => by
  have hg := (hb.block w.heap.size (by omega)).trans (heap_alloc_new w (.cells #[vs, vo, vl, vf, v1] t))
  exact ⟨cell_of_row _ _ 0 _ _ _ hg, cell_of_row _ _ 1 _ _ _ hg, cell_of_row _ _ 2 _ _ _ hg, cell_of_row _ _ 3 _ _ _ hg, cell_of_row _ _ 4 _ _ _ hg⟩
/-- is l a list of spots below n? -/
def spotsB (l : List Int) (n : Nat) : Bool := upB l && l.all fun x => decide (0 ≤ x) && decide (x < n)
def rightB (N : NetM) : Bool := decide (N.of.length = N.sets.length ∧ N.last.length = N.sets.length ∧ N.fol.length = N.sets.length) && (spotsB N.first N.sets.length && (List.range N.sets.length).all fun i => decide (0 ≤ N.of.getD i 0) && spotsB (N.fol.getD i []) N.sets.length)
end Go.Proofs.Ytgaadndhecokfaa

/- A machine in memory: a block of 259 cells (the classes of all bytes, how many there are, the rows, the labels); as a value; what is loaded of it. -/
namespace Go.Proofs.Ytgaadndhecokfaa
open Go.RowKit

/-- a machine -/
structure DfaM where
  cls : Nat → Nat
  width : Int
  next : List (List Int)
  label : List Int
/-- its cells -/
def dfaC (g : Nat → Nat) (wd : Int) (vn vl : Value) : Array Value := cellsN (nV g) ++ #[.int .i64 wd, vn, vl]
@[reducible] def dfaA (g : Nat → Nat) (wd : Int) (vn vl : Value) : Value := .agg (dfaC g wd vn vl)
theorem dfaC_size (g : Nat → Nat) (wd : Int) (vn vl : Value) : (dfaC g wd vn vl).size = 259 := by
  unfold dfaC
  rw [Array.size_append, cellsN_size]
  rfl
theorem dfaC_cls (g : Nat → Nat) (wd : Int) (vn vl : Value) {j : Nat} (h : j < 256) : (dfaC g wd vn vl)[j]? = some (nV g j) := by
  unfold dfaC
  rw [Array.getElem?_append_left (by rw [cellsN_size]; exact h), cellsN_get _ h]
theorem dfaC_rest (g : Nat → Nat) (wd : Int) (vn vl : Value) : (dfaC g wd vn vl)[256]? = some (.int .i64 wd) ∧ (dfaC g wd vn vl)[257]? = some vn ∧ (dfaC g wd vn vl)[258]? = some vl := by
  unfold dfaC
  refine ⟨?_, ?_, ?_⟩
  all_goals rw [Array.getElem?_append_right (by rw [cellsN_size]; omega), cellsN_size]
  all_goals rfl
/-- block B holds a machine -/
def DfaAt (w : World) (B : Nat) (g : Nat → Nat) (wd : Int) (vn vl : Value) : Prop := w.heap[B]? = some (.cells (dfaC g wd vn vl) 26 (0, 0))
section
variable {w w' : World} {B : Nat} {g : Nat → Nat} {wd : Int} {vn vl : Value}
theorem DfaAt.lt (h : DfaAt w B g wd vn vl) : B < w.heap.size := (Array.getElem?_eq_some_iff.1 h).1
theorem DfaAt.cls (h : DfaAt w B g wd vn vl) {j : Nat} (hj : j < 256) : w.cell? ⟨B, j, none⟩ = some (.int .u8 (g j : Int)) := (cell_of_row w B j _ _ _ h).trans (dfaC_cls g wd vn vl hj)
theorem DfaAt.width (h : DfaAt w B g wd vn vl) : w.cell? ⟨B, 256, none⟩ = some (.int .i64 wd) := (cell_of_row w B 256 _ _ _ h).trans (dfaC_rest g wd vn vl).1
theorem DfaAt.next (h : DfaAt w B g wd vn vl) : w.cell? ⟨B, 257, none⟩ = some vn := (cell_of_row w B 257 _ _ _ h).trans (dfaC_rest g wd vn vl).2.1
theorem DfaAt.label (h : DfaAt w B g wd vn vl) : w.cell? ⟨B, 258, none⟩ = some vl := (cell_of_row w B 258 _ _ _ h).trans (dfaC_rest g wd vn vl).2.2
theorem DfaAt.frozen (h : DfaAt w B g wd vn vl) (j : Nat) : w.frozen? ⟨B, j, none⟩ = false := frozen_of_row w B j _ _ h
theorem DfaAt.below (h : DfaAt w B g wd vn vl) (hb : Below w.heap.size w w') : DfaAt w' B g wd vn vl := (hb.block B h.lt).trans h
theorem DfaAt.alloc (h : DfaAt w B g wd vn vl) (o : Obj) : DfaAt (w.alloc o) B g wd vn vl := (heap_alloc_old w o h.lt).trans h
theorem DfaAt.new (w : World) (g : Nat → Nat) (wd : Int) (vn vl : Value) : DfaAt (w.alloc (.cells (dfaC g wd vn vl) 26)) w.heap.size g wd vn vl := heap_alloc_new w _
theorem DfaAt.newAt (h : w.heap.size = B) : DfaAt (w.alloc (.cells (dfaC g wd vn vl) 26)) B g wd vn vl := by subst h; exact DfaAt.new w g wd vn vl
end
theorem size_dfa : (Try.prog.info? 26).map (·.size) = some 259 := by kernel_rfl
theorem run_box_dfa (g : Nat → Nat) (wd : Int) (vn vl : Value) (w : World) : (Instr.box 26 (dfaA g wd vn vl)).run Try.prog w = .ok (.pointer (some ⟨w.heap.size, 0, none⟩)) (w.alloc (.cells (dfaC g wd vn vl) 26)) := by
  simp [Instr.box, newVar, go_sem]
/-- the whole machine is loaded -/
theorem run_load_dfa {w : World} {B : Nat} {g : Nat → Nat} {wd : Int} {vn vl : Value} (h : DfaAt w B g wd vn vl) : (loadVar 26 ⟨B, 0, none⟩).run Try.prog w = .ok (dfaA g wd vn vl) w :=
  run_loadVar_row (P := Try.prog) w B 26 26 _ (0, 0) _ h Try.underlying26 rfl (by rw [dfaC_size]; exact size_dfa)
/-- its classes are loaded -/
theorem run_load_cls {w : World} {B : Nat} {g : Nat → Nat} {wd : Int} {vn vl : Value} (h : DfaAt w B g wd vn vl) : (loadVar 22 ⟨B, 0, none⟩).run Try.prog w = .ok (ar g) w := by
  have hl : (loadCells ⟨B, 0, none⟩ (cellsN (nV g)).toList.length).run Try.prog w = .ok (cellsN (nV g)).toList.toArray w :=
    run_loadCells_list (P := Try.prog) w ⟨B, 0, none⟩ (cellsN (nV g)).toList (fun j v hv => by
      have hadd : (⟨B, 0, none⟩ : Addr).add j = ⟨B, j, none⟩ := by unfold Addr.add; split <;> simp_all
      have hj : j < 256 := by
        have := (List.getElem?_eq_some_iff.1 hv).1
        rw [Array.length_toList, cellsN_size] at this
        exact this
      have e2 : (cellsN (nV g)).toList[j]? = some (nV g j) := by
        rw [Array.getElem?_toList]; exact cellsN_get _ hj
      rw [hadd, h.cls hj]
      rw [hv] at e2
      exact e2.symm)
  obtain ⟨i, hi⟩ : ∃ i, Try.prog.info? 22 = some i := Option.isSome_iff_exists.1 (by kernel_rfl)
  have hs : i.size = 256 := by
    have := size_arr
    rw [hi] at this
    simpa using this
  have hagg : (isAgg 22).run Try.prog w = .ok true w := by
    unfold isAgg
    rw [Sem.run_bind, run_underlying Try.underlying22 w]
    rfl
  rw [Array.length_toList, cellsN_size] at hl
  simp only [Array.toArray_toList] at hl
  simp [loadVar, Sem.run_bind, hagg, sizeOf, typeInfo, hi, hs, hl]
end Go.Proofs.Ytgaadndhecokfaa

/- Contract of the reference's find: where a list stands among others. -/
namespace Go.Proofs.Ytgaadndhecokfaa
open Go.RowKit

/-- from place k on: where x stands; -1 -/
def findI (x : List Int) : List (List Int) → Nat → Int
  | [], _ => -1
  | y :: r, k => if y = x then (k : Int) else findI x r (k + 1)
theorem findI_ge (x : List Int) : ∀ (l : List (List Int)) (k : Nat), findI x l k = -1 ∨ ((k : Int) ≤ findI x l k ∧ findI x l k < k + l.length)
  | [], k => .inl rfl
  | y :: r, k => by
    unfold findI
    split
    · right; simp; omega
    · rcases findI_ge x r (k + 1) with h | h
      · exact .inl h
      · right; simp; omega
theorem findI_yes (x : List Int) : ∀ (l : List (List Int)) (k : Nat), 0 ≤ findI x l k → l.getD (findI x l k - k).toNat [] = x
  | [], k, h => by simp [findI] at h
  | y :: r, k, h => by
    unfold findI at h ⊢
    by_cases e : y = x
    · rw [if_pos e]; simp [e]
    · rw [if_neg e] at h ⊢
      have := findI_yes x r (k + 1) h
      have hg := findI_ge x r (k + 1)
      rw [show (findI x r (k + 1) - (k : Int)).toNat = (findI x r (k + 1) - ((k + 1 : Nat) : Int)).toNat + 1 by omega]
      simpa using this
theorem findI_no (x : List Int) : ∀ (l : List (List Int)) (k : Nat), findI x l k = -1 ↔ x ∉ l
  | [], k => by simp [findI]
  | y :: r, k => by
    unfold findI
    by_cases e : y = x
    · rw [if_pos e]; simp [e] <;> omega
    · rw [if_neg e, findI_no x r (k + 1)]
      simp [Ne.symm e]

set_option maxRecDepth 100000 in
theorem find14_calls {w : World} {vl vx : Value} {l : List (List Int)} {x : List Int} (h : RdZZ w.heap.size w vl l) (hx : RdZ w.heap.size w vx x) :
    Calls Try.prog 37 #[vl, vx] w fun e w' => e = .returned (.int .i64 (findI x l 0)) ∧ Below w.heap.size w w' := by
  obtain ⟨al, cl, rfl⟩ := h.form
  have hbd : l.length ≤ 9223372036854775807 := by
    obtain ⟨_, _, e, h1, h2, _⟩ := h
    unfold maxLen at h2
    omega
  have HL := hidden h
  have HX := hidden hx
  obtain ⟨n, hn⟩ : ∃ n, n = l.length := ⟨_, rfl⟩
  rw [← hn] at hbd ⊢
  have HN := hidden hn
  clear h hx hn
  go_enter Try.func37, Try.ntmps37
  go_wp2
  go_loopw [5] (fun i wr => ∃ k : Nat, k ≤ n ∧ i = .int .i64 k ∧ findI x l 0 = findI x (l.drop k) k ∧ Below w.heap.size w wr) (fun i _ => n - (Go.RowKit.intOf i).toNat)
  case atStart => exact ⟨0, by omega, rfl, rfl, Below.refl _ _⟩
  case round =>
    obtain ⟨k, hk, rfl, hf, hb⟩ := hrel
    have HB := hidden hb
    clear hb
    by_cases hlt : k < n
    · rw [List.drop_eq_getElem_cons (by rw [← HN.out]; exact hlt), findI] at hf
      have hg : l[k]'(by rw [← HN.out]; exact hlt) = l.getD k [] := by simp [List.getD_eq_getElem?_getD, show k < l.length by rw [← HN.out]; exact hlt]
      rw [hg] at hf
      obtain ⟨b, off, a', c', rfl, hbb, hc, hr⟩ := (HN.out ▸ HL.out).at HB.out k (by rw [← HN.out]; exact hlt)
      have HR := hidden (rsame_calls (w := wr) hr (HX.out.below HB.out (Nat.le_refl _)))
      have HF := hidden hf
      clear hf hg hr
      go_wp2_with fail
      refine HR.out.mono ?_
      rintro e w5 ⟨rfl, hb5⟩
      have HB5 := hidden (below_then HB.out HB.out.size hb5)
      clear hb5
      by_cases he : l.getD k [] = x
      · have hff := HF.out
        rw [if_pos he] at hff
        have HFF := hidden hff
        rw [decide_eq_true he]
        clear HF hff he
        go_wp2
        go_ret
        exact ⟨ret_i HFF.out.symm, HB5.out⟩
      · have hff := HF.out
        rw [if_neg he] at hff
        have HFF := hidden hff
        rw [decide_eq_false he]
        clear HF hff he
        go_wp2
        go_roundw
        case rel => exact ⟨k + 1, by omega, by go_num, HFF.out, HB5.out⟩
        case measure => simp [Go.RowKit.intOf]; omega
    · obtain rfl : k = n := by omega
      rw [List.drop_eq_nil_of_le (by rw [← HN.out]; exact Nat.le_refl _), findI] at hf
      have HF := hidden hf
      clear hf
      go_wp2
      go_ret
      exact ⟨ret_i HF.out.symm, HB.out⟩
end Go.Proofs.Ytgaadndhecokfaa
