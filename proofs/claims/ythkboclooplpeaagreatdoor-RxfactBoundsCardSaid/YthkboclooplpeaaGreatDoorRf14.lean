/- FaRun, TxtRefB, put together. -/
import Derived.Test.YthkboclooplpeaaGreatDoorRf13
import Derived.Test.YthkboclooplpeaaGreatDoorRf08
/- Reading a word by sets of open places: where words end; a list of trees with one net of places. Of no program. -/
namespace Go.Proofs.YthkboclooplpeaaGreatDoor

section
variable (S E : Nat → Nat → Bool) (L : Nat → Bool)
def after (O : Nat → Bool) (c q : Nat) : Bool := (List.range 256).any fun p => O p && (S p c && E p q)
def ended (O : Nat → Bool) (c : Nat) : Bool := (List.range 256).any fun p => O p && (S p c && L p)
def scan : (Nat → Bool) → List Nat → Nat → List Nat
  | _, [], _ => []
  | O, c :: u, i => if noneF O = true then [] else (if ended S L O c = true then [i + 1] else []) ++ scan (after S E O c) u (i + 1)
def endB : (Nat → Bool) → List Nat → Bool
  | _, [] => false
  | O, [c] => ended S L O c
  | O, c :: u => endB (after S E O c) u
end
section
variable {S E : Nat → Nat → Bool} {L : Nat → Bool}
theorem endB_more (O : Nat → Bool) (c : Nat) {u : List Nat} (h : u ≠ []) : endB S E L O (c :: u) = endB S E L (after S E O c) u := by
  cases u with
  | nil => exact absurd rfl h
  | cons d u => rfl
theorem endB_iff (hS : ∀ p c, S p c = true → p < 256) : ∀ (u : List Nat) (O : Nat → Bool), endB S E L O u = true ↔ Led S E O L u
  | [], O => by
    constructor
    · intro h; cases h
    · rintro ⟨p, q, _, h, _⟩; exact absurd rfl (path_ne h)
  | [c], O => by
    simp only [endB, ended, List.any_eq_true, List.mem_range, Bool.and_eq_true]
    constructor
    · rintro ⟨p, hp, h1, h2, h3⟩
      exact ⟨p, p, h1, .one h2, h3⟩
    · rintro ⟨p, q, h1, h2, h3⟩
      cases h2 with
      | one h => exact ⟨p, hS _ _ h, h1, h, h3⟩
      | more h e t => exact absurd rfl (path_ne t)
  | c :: d :: u, O => by
    rw [endB_more O c (by simp), endB_iff hS (d :: u) (after S E O c)]
    constructor
    · rintro ⟨r, q, h1, h2, h3⟩
      simp only [after, List.any_eq_true, List.mem_range, Bool.and_eq_true] at h1
      obtain ⟨p, hp, h4, h5, h6⟩ := h1
      exact ⟨p, q, h4, .more h5 h6 h2, h3⟩
    · rintro ⟨p, q, h1, h2, h3⟩
      cases h2 with
      | more h e t => exact ⟨_, q, by simp only [after, List.any_eq_true, List.mem_range, Bool.and_eq_true]; exact ⟨p, hS _ _ h, h1, h, e⟩, t, h3⟩
theorem endB_none (hS : ∀ p c, S p c = true → p < 256) {O : Nat → Bool} (h : noneF O = true) (u : List Nat) : endB S E L O u = false := by
  rw [Bool.eq_false_iff]
  intro hc
  obtain ⟨p, q, h1, h2, _⟩ := (endB_iff hS u O).1 hc
  have hp : p < 256 := by
    cases h2 with
    | one h => exact hS _ _ h
    | more h e t => exact hS _ _ h
  rw [(noneF_iff O).1 h p hp] at h1
  cases h1
theorem scan_eq (hS : ∀ p c, S p c = true → p < 256) : ∀ (u : List Nat) (O : Nat → Bool) (i : Nat), scan S E L O u i = ((List.range u.length).filter fun k => endB S E L O (u.take (k + 1))).map fun k => i + k + 1
  | [], O, i => rfl
  | c :: u, O, i => by
    by_cases hn : noneF O = true
    · simp only [scan]
      rw [if_pos hn, List.filter_eq_nil_iff.2 (fun k _ => by rw [endB_none hS hn]; simp)]
      rfl
    · simp only [scan]
      rw [if_neg hn, scan_eq hS u, List.length_cons, List.range_succ_eq_map, List.filter_cons, List.filter_map, Function.comp_def]
      have h0 : endB S E L O ((c :: u).take (0 + 1)) = ended S L O c := by simp [endB]
      have h1 : ((List.range u.length).filter fun k => endB S E L O ((c :: u).take (k.succ + 1))) = (List.range u.length).filter fun k => endB S E L (after S E O c) (u.take (k + 1)) := by
        refine List.filter_congr fun k hk => ?_
        have hk' := List.mem_range.1 hk
        rw [List.take_succ_cons, endB_more]
        intro h
        have := congrArg List.length h
        simp only [List.length_take, List.length_nil] at this
        omega
      rw [h0, h1]
      split
      · simp only [List.map_cons, List.map_map, List.cons_append, List.nil_append, Nat.add_zero, List.cons.injEq, true_and]
        refine List.map_congr_left fun k _ => ?_
        simp only [Function.comp]
        omega
      · simp only [List.map_map, List.nil_append]
        refine List.map_congr_left fun k _ => ?_
        simp only [Function.comp]
        omega
end

/-! ### where words end -/
def sub (W : List Nat) (p q : Nat) : List Nat := (W.take q).drop p
open Classical in
noncomputable def lgB (e : Ex) (W : List Nat) (p q : Nat) : Bool := decide (p ≤ q ∧ q ≤ W.length ∧ Lang e (sub W p q))
theorem lgB_iff {e : Ex} {W : List Nat} {p q : Nat} : lgB e W p q = true ↔ p ≤ q ∧ q ≤ W.length ∧ Lang e (sub W p q) := by simp [lgB]
/-- the ends as the program finds them -/
def endsE (e : Ex) (W : List Nat) (a : Nat) : List Nat := (if nul e = true then [a] else []) ++ scan (gS e 0) (gE e 0) (gL e 0) (gF e 0) (W.drop a) a
theorem sub_self (W : List Nat) (p : Nat) : sub W p p = [] := by
  unfold sub
  rw [List.drop_eq_nil_iff]
  simp
  omega
theorem sub_more (W : List Nat) (a k : Nat) : sub W a (a + k + 1) = (W.drop a).take (k + 1) := by
  unfold sub
  rw [List.drop_take]
  congr 1
  omega
theorem endsE_eq {e : Ex} (he : e.ok) (hp : plc e ≤ 256) {W : List Nat} {a : Nat} (ha : a ≤ W.length) : endsE e W a = (List.range (W.length + 1)).filter (lgB e W a) := by
  have hS : ∀ p c, gS e 0 p c = true → p < 256 := fun p c h => by
    have := gS_in e 0 p c h
    omega
  obtain ⟨m, hm⟩ : ∃ m, W.length = a + m := ⟨W.length - a, by omega⟩
  have hl : (W.drop a).length = m := by rw [List.length_drop]; omega
  have hz : (List.range a).filter (lgB e W a) = [] := List.filter_eq_nil_iff.2 fun q hq => by
    have := List.mem_range.1 hq
    rw [lgB_iff]
    omega
  unfold endsE
  rw [scan_eq hS, hl, hm, Nat.add_assoc, List.range_add, List.filter_append, hz, List.nil_append, List.range_succ_eq_map, List.map_cons, List.filter_cons, Nat.add_zero]
  have h0 : (lgB e W a a = true) = (nul e = true) := by
    rw [lgB_iff, sub_self, nul_iff e he]
    simp [ha]
  have hr : ((List.range m).filter fun k => endB (gS e 0) (gE e 0) (gL e 0) (gF e 0) ((W.drop a).take (k + 1))).map (fun k => a + k + 1) = (((List.range m).map Nat.succ).map fun x => a + x).filter (lgB e W a) := by
    rw [List.map_map, List.filter_map]
    have : ((List.range m).filter (lgB e W a ∘ ((fun x => a + x) ∘ Nat.succ))) = (List.range m).filter fun k => endB (gS e 0) (gE e 0) (gL e 0) (gF e 0) ((W.drop a).take (k + 1)) := by
      refine List.filter_congr fun k hk => ?_
      have hk' := List.mem_range.1 hk
      rw [Bool.eq_iff_iff, Function.comp, Function.comp, lgB_iff, show a + k.succ = a + k + 1 by omega, sub_more, endB_iff hS, led_iff e he 0 _ (by
        intro h
        have := congrArg List.length h
        simp only [List.length_take, List.length_nil, hl] at this
        omega)]
      constructor
      · exact fun h => h.2.2
      · exact fun h => ⟨by omega, by omega, h⟩
    rw [this]
    refine List.map_congr_left fun k _ => ?_
    simp only [Function.comp]
    omega
  rw [hr]
  by_cases hn : nul e = true
  · rw [if_pos hn, if_pos (h0 ▸ hn)]
    rfl
  · rw [if_neg hn, if_neg (h0 ▸ hn)]
    rfl
/-- is the last end the word's? -/
def lastIs (l : List Nat) (n : Nat) : Bool := match l.getLast? with
  | none => false
  | some q => q == n
theorem lastIs_iff {e : Ex} {W : List Nat} {a : Nat} : lastIs ((List.range (W.length + 1)).filter (lgB e W a)) W.length = lgB e W a W.length := by
  rw [List.range_succ, List.filter_append]
  by_cases h : lgB e W a W.length = true
  · rw [List.filter_cons, if_pos h, h]
    simp [lastIs]
  · rw [List.filter_cons, if_neg h]
    have h' : lgB e W a W.length = false := by simpa using h
    rw [h']
    simp only [List.filter_nil, List.append_nil, lastIs]
    split
    · rfl
    · rename_i q hq
      have := List.mem_range.1 (List.mem_filter.1 (List.mem_of_getLast? hq)).1
      simp
      omega
theorem sub_all (W : List Nat) : sub W 0 W.length = W := by simp [sub]
theorem says_iff {e : Ex} {W : List Nat} : lgB e W 0 W.length = true ↔ Lang e W := by
  rw [lgB_iff, sub_all]
  simp

/-! ### trees side by side in one net -/
def plcs : List Ex → Nat
  | [] => 0
  | t :: r => plc t + plcs r
def setsE : Ex → List (Nat → Bool)
  | .set f => [f]
  | .emp => []
  | .cat a b => setsE a ++ setsE b
  | .alt a b => setsE a ++ setsE b
  | .un _ a => setsE a
theorem setsE_len : ∀ e : Ex, (setsE e).length = plc e
  | .set _ => rfl
  | .emp => rfl
  | .cat a b => by simp [setsE, plc, setsE_len a, setsE_len b]
  | .alt a b => by simp [setsE, plc, setsE_len a, setsE_len b]
  | .un _ a => by simp [setsE, plc, setsE_len a]
def fSets (es : List Ex) : List (Nat → Bool) := es.flatMap setsE
def fE : List Ex → Nat → Nat → Nat → Bool
  | [], _, _, _ => false
  | t :: r, i, p, q => gE t i p q || fE r (i + plc t) p q
structure Rch where
  null : Bool
  first : Nat → Bool
  last : Nat → Bool
def rch (e : Ex) (i : Nat) : Rch := ⟨nul e, gF e i, gL e i⟩
def fRe : List Ex → Nat → List Rch
  | [], _ => []
  | t :: r, i => rch t i :: fRe r (i + plc t)
theorem plcs_append : ∀ a b, plcs (a ++ b) = plcs a + plcs b
  | [], b => by simp [plcs]
  | t :: r, b => by simp [plcs, plcs_append r b]; omega
theorem fSets_len : ∀ es, (fSets es).length = plcs es
  | [] => rfl
  | t :: r => by
    have := fSets_len r
    simp only [fSets, List.flatMap_cons, List.length_append, setsE_len, plcs] at this ⊢
    rw [this]
theorem fSets_append (a b : List Ex) : fSets (a ++ b) = fSets a ++ fSets b := by simp [fSets]
theorem fE_append : ∀ (a b : List Ex) (i p q : Nat), fE (a ++ b) i p q = (fE a i p q || fE b (i + plcs a) p q)
  | [], b, i, p, q => by simp [fE, plcs]
  | t :: r, b, i, p, q => by
    simp only [List.cons_append, fE, plcs, fE_append r b, Bool.or_assoc]
    rw [show i + plc t + plcs r = i + (plc t + plcs r) by omega]
theorem fRe_append : ∀ (a b : List Ex) (i : Nat), fRe (a ++ b) i = fRe a i ++ fRe b (i + plcs a)
  | [], b, i => by simp [fRe, plcs]
  | t :: r, b, i => by
    simp only [List.cons_append, fRe, plcs, fRe_append r b]
    rw [show i + plc t + plcs r = i + (plc t + plcs r) by omega]
theorem fE_in : ∀ (es : List Ex) (i p q : Nat), fE es i p q = true → (i ≤ p ∧ p < i + plcs es) ∧ (i ≤ q ∧ q < i + plcs es)
  | [], i, p, q, h => by simp [fE] at h
  | t :: r, i, p, q, h => by
    simp only [fE, Bool.or_eq_true] at h
    simp only [plcs]
    rcases h with h | h
    · have := gE_in t i p q h; omega
    · have := fE_in r _ p q h; omega
/-- the sets of the places -/
theorem gS_sets : ∀ (e : Ex) (i p c : Nat), gS e i p c = (decide (i ≤ p) && ((setsE e).getD (p - i) fNone c && decide (c < 256)))
  | .set f, i, p, c => by
    simp only [gS, setsE]
    by_cases h : p = i
    · subst h; simp
    · by_cases h2 : i ≤ p
      · have : (p - i) = (p - i - 1) + 1 := by omega
        rw [this]
        simp [h, fNone]
      · simp [h, h2]
  | .emp, i, p, c => by simp [gS, setsE, fNone]
  | .cat a b, i, p, c => by
    have h1 := gS_sets a i p c
    have h2 := gS_sets b (i + plc a) p c
    have hl := setsE_len a
    simp only [gS, setsE, h1, h2, List.getD_eq_getElem?_getD]
    by_cases h3 : i + plc a ≤ p
    · rw [List.getElem?_append_right (by omega), List.getElem?_eq_none (l := setsE a) (by omega), hl, show p - i - plc a = p - (i + plc a) by omega]
      simp [h3, show i ≤ p by omega, fNone]
    · by_cases h4 : i ≤ p
      · rw [List.getElem?_append_left (by omega)]
        simp [h3, h4]
      · simp [h3, h4]
  | .alt a b, i, p, c => by
    have h1 := gS_sets a i p c
    have h2 := gS_sets b (i + plc a) p c
    have hl := setsE_len a
    simp only [gS, setsE, h1, h2, List.getD_eq_getElem?_getD]
    by_cases h3 : i + plc a ≤ p
    · rw [List.getElem?_append_right (by omega), List.getElem?_eq_none (l := setsE a) (by omega), hl, show p - i - plc a = p - (i + plc a) by omega]
      simp [h3, show i ≤ p by omega, fNone]
    · by_cases h4 : i ≤ p
      · rw [List.getElem?_append_left (by omega)]
        simp [h3, h4]
      · simp [h3, h4]
  | .un k a, i, p, c => gS_sets a i p c
theorem plc_ops : ∀ e : Ex, 2 * plc e ≤ (ops e).length + 1
  | .set _ => by simp [plc, ops]
  | .emp => by simp [plc]
  | .cat a b => by
    have := plc_ops a
    have := plc_ops b
    simp only [plc, ops, List.length_append, List.length_cons, List.length_nil]
    omega
  | .alt a b => by
    have := plc_ops a
    have := plc_ops b
    simp only [plc, ops, List.length_append, List.length_cons, List.length_nil]
    omega
  | .un k a => by
    have := plc_ops a
    simp only [plc, ops, List.length_append, List.length_cons, List.length_nil]
    omega
theorem plcs_ops : ∀ es : List Ex, plcs es ≤ (es.flatMap ops).length
  | [] => by simp [plcs]
  | t :: r => by
    have h1 := plc_ops t
    have h2 := plcs_ops r
    have h3 : 1 ≤ (ops t).length := by cases t <;> simp only [ops, List.length_append, List.length_cons, List.length_nil] <;> omega
    simp only [plcs, List.flatMap_cons, List.length_append]
    omega
end Go.Proofs.YthkboclooplpeaaGreatDoor

/- The reference's Begin, at the steps of a tree. -/
namespace Go.Proofs.YthkboclooplpeaaGreatDoor
open Go.RowKit Go.Lib Go.Joins

/-- block b has the steps L from place off on -/
def Lay (b off : Nat) (L : List Stp) (W : World) : Prop := b < W.heap.size ∧ ∀ i, i < L.length → RxAt W b (off + i * 5) (L.getD i default)
theorem Lay.below {b off : Nat} {L : List Stp} {W W' : World} (h : Lay b off L W) (hb : Below W.heap.size W W') : Lay b off L W' := ⟨Nat.lt_of_lt_of_le h.1 hb.size, fun i hi => (h.2 i hi).kept (hb.block b h.1)⟩
theorem getD_end (x u z : List Stp) (s : Stp) : (x ++ (u ++ [s]) ++ z).getD (x.length + u.length) default = s := by
  rw [List.getD_eq_getElem?_getD, List.getElem?_append_left (by simp), List.getElem?_append_right (by omega), List.getElem?_append_right (by omega)]
  simp
theorem ops_last : ∀ e : Ex, ∃ u s, ops e = u ++ [s] ∧ s.k = e.kind
  | .set f => ⟨[], sStp f, rfl, rfl⟩
  | .emp => ⟨[], kStp 2, rfl, rfl⟩
  | .cat a b => ⟨ops a ++ ops b, kStp 3, rfl, rfl⟩
  | .alt a b => ⟨ops a ++ ops b, kStp 4, rfl, rfl⟩
  | .un k a => ⟨ops a, kStp k, rfl, rfl⟩
theorem ops_pos (e : Ex) : 1 ≤ (ops e).length := by
  obtain ⟨u, s, h, _⟩ := ops_last e
  rw [h]
  simp
theorem at_end {L x z : List Stp} {e : Ex} {i : Nat} (hL : L = x ++ ops e ++ z) (hi : i + 1 = x.length + (ops e).length) : i < L.length ∧ (L.getD i default).k = e.kind := by
  obtain ⟨u, s, h, hs⟩ := ops_last e
  rw [h] at hL hi
  simp only [List.length_append, List.length_cons, List.length_nil] at hi
  have hi' : i = x.length + u.length := by omega
  subst hi'
  refine ⟨by rw [hL]; simp only [List.length_append, List.length_cons, List.length_nil]; omega, ?_⟩
  rw [hL, getD_end, hs]
section
variable {b off cap : Nat} {L : List Stp} {w : World}
theorem Lay.kind (h : Lay b off L w) {i : Nat} (hi : i < L.length) {k : Int} (hk : (L.getD i default).k = k) : w.cell? ⟨b, off + i * 5, none⟩ = some (.int .i64 k) := by
  rw [← hk]
  exact (h.2 i hi).1
set_option maxRecDepth 100000 in
theorem begin0 (h : Lay b off L w) {i : Nat} (hi : i < L.length) {k : Int} (hk : (L.getD i default).k = k) (ho : kOps k = 0) (_ : L.length ≤ 1000) :
    Calls Tryz.prog 84 #[.slice (some ⟨b, off, none⟩) L.length cap, .int .i64 i] w fun e w' => e = .returned (.int .i64 i) ∧ w = w' := by
  have c0 := h.kind hi hk
  have hK := rof_calls k
  rw [ho] at hK
  have HK := hidden hK
  generalize L.length = n at *
  have q0 : decide ((i : Int) < 0) = false := decide_eq_false (by omega)
  have q1 : decide ((n : Int) ≤ i) = false := decide_eq_false (by omega)
  have q2 : decide (n ≤ i) = false := decide_eq_false (by omega)
  clear h hk hK ho
  go_enter Tryz.func84, Tryz.ntmps84
  go_wp2_with fail
  refine (HK.out _).mono ?_
  rintro e w1 ⟨rfl, rfl⟩
  go_wp2
  refine wp_loop_rounds 1 ?_
  rw [rounds_succ]
  go_wp2
  go_ret
  exact ⟨rfl, rfl⟩
set_option maxRecDepth 100000 in
theorem begin1 (h : Lay b off L w) {i j y : Nat} (hi : i < L.length) {k : Int} (hk : (L.getD i default).k = k) (ho : kOps k = 1) (hl : L.length ≤ 1000) (hj : j + 1 = i) (hy : y ≤ 1000)
    (H1 : Calls Tryz.prog 84 #[.slice (some ⟨b, off, none⟩) L.length cap, .int .i64 j] w fun e w' => e = .returned (.int .i64 y) ∧ w = w') :
    Calls Tryz.prog 84 #[.slice (some ⟨b, off, none⟩) L.length cap, .int .i64 i] w fun e w' => e = .returned (.int .i64 y) ∧ w = w' := by
  have c0 := h.kind hi hk
  have hK := rof_calls k
  rw [ho] at hK
  have HK := hidden hK
  have HC := hidden H1
  generalize L.length = n at *
  have q0 : decide ((i : Int) < 0) = false := decide_eq_false (by omega)
  have q1 : decide ((n : Int) ≤ i) = false := decide_eq_false (by omega)
  have q2 : decide (n ≤ i) = false := decide_eq_false (by omega)
  have q3 : decide ((y : Int) < 0) = false := decide_eq_false (by omega)
  have hsub : IntKind.i64.wrap ((i : Int) - 1) = j := by rw [IntKind.wrap_i64]; omega
  clear h hk hK ho H1 hj
  go_enter Tryz.func84, Tryz.ntmps84
  go_wp2_with fail
  refine (HK.out _).mono ?_
  rintro e w1 ⟨rfl, rfl⟩
  go_wp2
  refine wp_loop_rounds 2 ?_
  rw [rounds_succ]
  go_wp2_with fail
  refine HC.out.mono ?_
  rintro e w1 ⟨rfl, rfl⟩
  go_wp2
  rw [rounds_succ]
  go_wp2
  go_ret
  exact ⟨rfl, rfl⟩
set_option maxRecDepth 100000 in
theorem begin2 (h : Lay b off L w) {i j y j2 y2 : Nat} (hi : i < L.length) {k : Int} (hk : (L.getD i default).k = k) (ho : kOps k = 2) (hl : L.length ≤ 1000) (hj : j + 1 = i) (hy : y ≤ 1000) (hj2 : j2 + 1 = y) (hy2 : y2 ≤ 1000)
    (H1 : Calls Tryz.prog 84 #[.slice (some ⟨b, off, none⟩) L.length cap, .int .i64 j] w fun e w' => e = .returned (.int .i64 y) ∧ w = w')
    (H2 : Calls Tryz.prog 84 #[.slice (some ⟨b, off, none⟩) L.length cap, .int .i64 j2] w fun e w' => e = .returned (.int .i64 y2) ∧ w = w') :
    Calls Tryz.prog 84 #[.slice (some ⟨b, off, none⟩) L.length cap, .int .i64 i] w fun e w' => e = .returned (.int .i64 y2) ∧ w = w' := by
  have c0 := h.kind hi hk
  have hK := rof_calls k
  rw [ho] at hK
  have HK := hidden hK
  have HC := hidden H1
  have HD := hidden H2
  generalize L.length = n at *
  have q0 : decide ((i : Int) < 0) = false := decide_eq_false (by omega)
  have q1 : decide ((n : Int) ≤ i) = false := decide_eq_false (by omega)
  have q2 : decide (n ≤ i) = false := decide_eq_false (by omega)
  have q3 : decide ((y : Int) < 0) = false := decide_eq_false (by omega)
  have q4 : decide ((y2 : Int) < 0) = false := decide_eq_false (by omega)
  have hsub : IntKind.i64.wrap ((i : Int) - 1) = j := by rw [IntKind.wrap_i64]; omega
  have hsub2 : IntKind.i64.wrap ((y : Int) - 1) = j2 := by rw [IntKind.wrap_i64]; omega
  clear h hk hK ho H1 H2 hj hj2
  go_enter Tryz.func84, Tryz.ntmps84
  go_wp2_with fail
  refine (HK.out _).mono ?_
  rintro e w1 ⟨rfl, rfl⟩
  go_wp2
  refine wp_loop_rounds 3 ?_
  rw [rounds_succ]
  go_wp2_with fail
  refine HC.out.mono ?_
  rintro e w1 ⟨rfl, rfl⟩
  go_wp2
  rw [rounds_succ]
  go_wp2_with fail
  refine HD.out.mono ?_
  rintro e w1 ⟨rfl, rfl⟩
  go_wp2
  rw [rounds_succ]
  go_wp2
  go_ret
  exact ⟨rfl, rfl⟩
theorem rbegin_calls (h : Lay b off L w) (hl : L.length ≤ 1000) : ∀ (e : Ex), e.ok → ∀ (x z : List Stp) (i : Nat), L = x ++ ops e ++ z → i + 1 = x.length + (ops e).length →
    Calls Tryz.prog 84 #[.slice (some ⟨b, off, none⟩) L.length cap, .int .i64 i] w fun e' w' => e' = .returned (.int .i64 x.length) ∧ w = w'
  | .set f, _, x, z, i, hL, hi => by
    obtain ⟨h1, h2⟩ := at_end hL hi
    have hx : i = x.length := by simp [ops] at hi; omega
    subst hx
    exact begin0 h h1 h2 rfl hl
  | .emp, _, x, z, i, hL, hi => by
    obtain ⟨h1, h2⟩ := at_end hL hi
    have hx : i = x.length := by simp [ops] at hi; omega
    subst hx
    exact begin0 h h1 h2 rfl hl
  | .un k a, ⟨hk, ha⟩, x, z, i, hL, hi => by
    obtain ⟨h1, h2⟩ := at_end hL hi
    have hp := ops_pos a
    have hlen : (ops (.un k a)).length = (ops a).length + 1 := by simp [ops]
    rw [hlen] at hi
    have hxl : x.length ≤ 1000 := by rw [hL] at hl; simp only [List.length_append] at hl; omega
    exact begin1 (j := i - 1) h h1 h2 (by rcases hk with rfl | rfl | rfl <;> rfl) hl (by omega) hxl (rbegin_calls h hl a ha x ([kStp k] ++ z) (i - 1) (by rw [hL]; simp [ops]) (by omega))
  | .cat a c, ⟨ha, hc⟩, x, z, i, hL, hi => by
    obtain ⟨h1, h2⟩ := at_end hL hi
    have hp := ops_pos a
    have hp2 := ops_pos c
    have hlen : (ops (.cat a c)).length = (ops a).length + (ops c).length + 1 := by simp [ops]; omega
    rw [hlen] at hi
    have hxl : x.length + (ops a).length ≤ 1000 := by rw [hL] at hl; simp only [List.length_append] at hl; omega
    have H1 := rbegin_calls h hl c hc (x ++ ops a) ([kStp 3] ++ z) (i - 1) (by rw [hL]; simp [ops]) (by simp only [List.length_append]; omega)
    rw [List.length_append] at H1
    exact begin2 (j := i - 1) (j2 := x.length + (ops a).length - 1) h h1 h2 rfl hl (by omega) hxl (by omega) (by omega) H1 (rbegin_calls h hl a ha x (ops c ++ [kStp 3] ++ z) _ (by rw [hL]; simp [ops]) (by omega))
  | .alt a c, ⟨ha, hc⟩, x, z, i, hL, hi => by
    obtain ⟨h1, h2⟩ := at_end hL hi
    have hp := ops_pos a
    have hp2 := ops_pos c
    have hlen : (ops (.alt a c)).length = (ops a).length + (ops c).length + 1 := by simp [ops]; omega
    rw [hlen] at hi
    have hxl : x.length + (ops a).length ≤ 1000 := by rw [hL] at hl; simp only [List.length_append] at hl; omega
    have H1 := rbegin_calls h hl c hc (x ++ ops a) ([kStp 4] ++ z) (i - 1) (by rw [hL]; simp [ops]) (by simp only [List.length_append]; omega)
    rw [List.length_append] at H1
    exact begin2 (j := i - 1) (j2 := x.length + (ops a).length - 1) h h1 h2 rfl hl (by omega) hxl (by omega) (by omega) H1 (rbegin_calls h hl a ha x (ops c ++ [kStp 4] ++ z) _ (by rw [hL]; simp [ops]) (by omega))
end
end Go.Proofs.YthkboclooplpeaaGreatDoor
