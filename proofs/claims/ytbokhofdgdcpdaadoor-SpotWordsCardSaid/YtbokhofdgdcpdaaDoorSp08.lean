/- FaRdT, FaLang, TxtRefB, put together. -/
import Derived.Test.YtbokhofdgdcpdaaDoorSp07
import Derived.Test.YtbokhofdgdcpdaaDoorSp05
/- The reference's reader: a text, an atom in brackets, and what it reads of the one text that the statements read. -/
namespace Go.Proofs.YtbokhofdgdcpdaaDoor
open Go.RowKit Go.Lib Go.Joins

/-- the branches of a text: where each begins, what it has, where it ends -/
structure Bra where
  p : Nat
  n : Nat
  L : List Stp
structure BraOk (s : ByteArray) (w : World) (x : Bra) : Prop where
  lt : x.n ≤ s.size
  adv : x.p ≤ x.n
  call : ∀ W, Below w.heap.size w W → Calls Tryd.prog 91 #[.string s, .int .i64 (x.p : Int)] W (Rd W x.L x.n)
set_option maxHeartbeats 8000000 in
set_option maxRecDepth 100000 in
theorem rtext_calls (s : ByteArray) (w : World) (hs : s.size ≤ 1000) (x0 : Bra) (l : List Bra) (hl : l.length ≤ 100) (hx0 : BraOk s w x0) (pos : Nat → Nat) (hp0 : pos 0 = x0.n) (hok : ∀ j, j < l.length → ∃ x, l[j]? = some x ∧ BraOk s w x ∧ At s (pos j) 124 ∧ x.p = pos j + 1 ∧ pos (j + 1) = x.n) (hps : ∀ j, j ≤ l.length → pos j ≤ s.size) (hst : pos l.length = s.size ∨ ∃ c, At s (pos l.length) c ∧ c ≠ 124) (hsz : (altV ((x0 :: l).map Bra.L)).length ≤ 1000) :
    Calls Tryd.prog 72 #[.string s, .int .i64 (x0.p : Int)] w (Rd w (altV ((x0 :: l).map Bra.L)) (pos l.length)) := by
  have HX0 := hidden (hx0.call w (Below.refl _ _))
  have HOK := hidden hok
  have HPS := hidden hps
  have HST := hidden hst
  have HSZ := hidden hsz
  have HTK := hidden (fun j x (h : l[j]? = some x) => (show ((x0 :: l).take (j + 2)).map Bra.L = ((x0 :: l).take (j + 1)).map Bra.L ++ [x.L] ∧ (((x0 :: l).take (j + 1)).map Bra.L).length = j + 1 from by
    have hj : j < l.length := (List.getElem?_eq_some_iff.1 h).1
    rw [List.take_succ_cons, List.take_succ_cons, List.take_add_one, h]
    simp
    omega))
  have HTE := hidden (show ((x0 :: l).take (l.length + 1)).map Bra.L = (x0 :: l).map Bra.L from by rw [List.take_of_length_le (by simp)])
  have HT0 := hidden (show ((x0 :: l).take (0 + 1)).map Bra.L = [x0.L] from rfl)
  rw [← hp0] at HX0
  generalize (x0 :: l).map Bra.L = LL at *
  obtain ⟨m, hm⟩ : ∃ m, m = l.length := ⟨_, rfl⟩
  rw [← hm] at HOK HPS HST hl HTE ⊢
  generalize x0.p = p0 at *
  clear hok hps hst hsz hm hx0 hp0
  go_enter Tryd.func72, Tryd.ntmps72
  go_wp2_with fail
  refine HX0.out.mono ?_
  rintro e w1 ⟨v, rfl, hr, hb1⟩
  have HS1 := hidden (Sg.one hb1 hr.typed _ rfl)
  rw [← HT0.out] at HS1
  obtain ⟨a1, l1, c1, rfl⟩ := rowX_slice hr
  clear hr hb1
  go_wp2
  go_loopw [7, 8, 9, 10] (fun _ nx ok pv wr => ∃ (j : Nat) (parts : Value), j ≤ m ∧ nx = .int .i64 (pos j : Nat) ∧ ok = .bool true ∧ parts = pv ∧ Sg w (((x0 :: l).take (j + 1)).map Bra.L) parts wr) (fun _ nx _ _ _ => s.size + 1 - (intOf nx).toNat)
  case atStart => exact ⟨0, _, by omega, rfl, rfl, rfl, HS1.out⟩
  case round =>
    obtain ⟨j, parts, hj, rfl, rfl, rfl, hp⟩ := hrel
    have HP := hidden hp
    clear hp
    have hpj := HPS.out j hj
    by_cases hlt : j < m
    · obtain ⟨x, hx, hX, hat, e1, e2⟩ := HOK.out j hlt
      have HAT := hidden (hX.call wr HP.out.frame)
      have hadv := hX.adv
      obtain ⟨t1, t2⟩ := HTK.out j x hx
      have HT1 := hidden t1
      have HT2 := hidden t2
      have HE2 := hidden e2
      have hnl := hX.lt
      obtain ⟨hp3, hx3⟩ := hat
      have hx3 : ((s[pos j]'hp3).toNat : Int) = 124 := hx3
      have g0 : decide (((pos j : Nat) : Int) < (s.size : Int)) = true := decide_eq_true (by omega)
      have g0' : decide (pos j < s.size) = true := decide_eq_true (by omega)
      have hadd : IntKind.i64.wrap (((pos j : Nat) : Int) + 1) = (x.p : Int) := by rw [IntKind.wrap_i64]; omega
      have HLT := hidden (show pos j < pos (j + 1) from by omega)
      rw [← e2] at HAT hnl
      generalize x.p = xp at *
      generalize x.L = xL at *
      clear t1 t2 hX hx e1 e2 hadv
      go_wp2_with fail
      refine HAT.out.mono ?_
      rintro e w2 ⟨v, rfl, hr, hb2⟩
      have HP2 := hidden ((HP.out.below hb2).below ((Below.refl w2.heap.size w2).alloc (Nat.le_refl _) (.cells #[v] 22)))
      have HV2 := hidden (typed_below hr.typed ((Below.refl w2.heap.size w2).alloc (Nat.le_refl _) (.cells #[v] 22)))
      obtain ⟨a2, l2, c2, rfl⟩ := rowX_slice hr
      clear hr hb2
      go_wp2_with (at_builtin; refine app_sg rfl _ _ rfl rfl HP2.out rfl (heap_alloc_new _ _) rfl HV2.out HT2.out (by omega) ?_; intro g' c' w4 hS4)
      have HS4 := hidden hS4
      clear hS4
      rw [← HT1.out] at HS4
      have hlt2 := HLT.out
      go_wp2
      go_roundw
      case rel => exact ⟨j + 1, _, by omega, rfl, rfl, rfl, HS4.out⟩
      case measure => simp [intOf]; omega
    · obtain rfl : j = m := by omega
      rw [HTE.out] at HP
      have HA := hidden HP.out.all
      have HC := hidden (ralt_calls wr _ _ HA.out (fun b hb => hb) (by have := HSZ.out; omega))
      have HB := hidden HP.out.frame
      have hE := HST.out
      rcases hE with hq | ⟨c, ⟨hp3, hx3⟩, hc⟩
      case' inl =>
        have g0 : decide (((pos j : Nat) : Int) < (s.size : Int)) = false := decide_eq_false (by omega)
        have g0' : decide (pos j < s.size) = false := decide_eq_false (by omega)
        clear hq
      case' inr =>
        have g0 : decide (((pos j : Nat) : Int) < (s.size : Int)) = true := decide_eq_true (by omega)
        have g0' : decide (pos j < s.size) = true := decide_eq_true (by omega)
        have q1 : ((c.toNat : Int) == 124) = false := toNat_ne (d := 124) hc
        generalize (c.toNat : Int) = nc at *
        clear hc
      all_goals
        go_wp2_with fail
        refine HC.out.mono ?_
        rintro e w2 ⟨v, rfl, hr, hb2⟩
        obtain ⟨a1, l1, c1, rfl⟩ := rowX_slice hr
        have HR := hidden (And.intro (hr.lower HB.out.size) (below_then HB.out HB.out.size hb2))
        clear hr hb2
        go_wp2
        go_ret3
        exact ⟨_, rfl, HR.out.1, HR.out.2⟩
set_option maxHeartbeats 2000000 in
set_option maxRecDepth 100000 in
theorem ratom_in (s : ByteArray) (p n : Nat) (L : List Stp) (w : World) (h1 : At s p 40) (h2 : At s n 41) (hs : s.size ≤ 1000) (H : Calls Tryd.prog 72 #[.string s, .int .i64 ((p + 1 : Nat) : Int)] w (Rd w L n)) :
    Calls Tryd.prog 101 #[.string s, .int .i64 (p : Int)] w (Rd w L (n + 1)) := by
  have HT := hidden H
  obtain ⟨hp, hx⟩ := h1
  obtain ⟨hp2, hx2⟩ := h2
  have hx : ((s[p]'hp).toNat : Int) = 40 := hx
  have hx2 : ((s[n]'hp2).toNat : Int) = 41 := hx2
  have q0 : decide ((p : Int) < (s.size : Int)) = true := decide_eq_true (by omega)
  have q0' : decide (p < s.size) = true := decide_eq_true (by omega)
  have g0 : decide ((s.size : Int) ≤ (n : Int)) = false := decide_eq_false (by omega)
  have g0' : decide (s.size ≤ n) = false := decide_eq_false (by omega)
  have hadd : IntKind.i64.wrap ((p : Int) + 1) = ((p + 1 : Nat) : Int) := by rw [IntKind.wrap_i64]; omega
  have hadd2 : IntKind.i64.wrap ((n : Int) + 1) = ((n + 1 : Nat) : Int) := by rw [IntKind.wrap_i64]; omega
  clear H
  go_enter Tryd.func101, Tryd.ntmps101
  go_wp2_with fail
  refine HT.out.mono ?_
  rintro e w1 ⟨v, rfl, hr, hb1⟩
  obtain ⟨a1, l1, c1, rfl⟩ := rowX_slice hr
  go_wp2
  go_ret3
  exact ⟨_, rfl, hr, hb1⟩

/-! ### "(a|b)*c" -/
def kTxt : ByteArray := ⟨#[40, 97, 124, 98, 41, 42, 99]⟩
def bS (c : UInt8) : Stp := sStp (fOne c.toNat)
def kL : List Stp := [bS 97, bS 98, kStp 4, kStp 5, bS 99, kStp 3]
theorem k_plain (c : UInt8) (h : c = 97 ∨ c = 98 ∨ c = 99) : Plain c := by
  rcases h with rfl | rfl | rfl <;> exact ⟨by decide, by decide, by decide⟩
theorem k_at : At kTxt 0 40 ∧ At kTxt 1 97 ∧ At kTxt 2 124 ∧ At kTxt 3 98 ∧ At kTxt 4 41 ∧ At kTxt 5 42 ∧ At kTxt 6 99 :=
  ⟨⟨by decide, rfl⟩, ⟨by decide, rfl⟩, ⟨by decide, rfl⟩, ⟨by decide, rfl⟩, ⟨by decide, rfl⟩, ⟨by decide, rfl⟩, ⟨by decide, rfl⟩⟩
theorem k_size : kTxt.size = 7 := rfl
theorem k_branch1 (w : World) : Calls Tryd.prog 91 #[.string kTxt, .int .i64 ((1 : Nat) : Int)] w (Rd w [bS 97] 2) := by
  obtain ⟨a0, a1, a2, a3, a4, a5, a6⟩ := k_at
  refine rbranch_calls kTxt w (by decide) [⟨1, 2, false, [bS 97]⟩] 1 (by decide) (fun j => j + 1) rfl ?_ ?_ (.inr (.inl a2)) (by decide)
  · intro j hj
    obtain rfl : j = 0 := by simpa using hj
    exact ⟨_, rfl, ⟨by decide, ⟨97, a1, by decide, by decide⟩, fun W _ => ratom_at kTxt 1 97 W a1 (by decide) (k_plain 97 (.inl rfl)), .inr ⟨124, a2, by decide⟩, by decide, by decide⟩, rfl, rfl⟩
  · intro j hj
    simp at hj
    rw [k_size]
    omega
theorem k_branch3 (w : World) : Calls Tryd.prog 91 #[.string kTxt, .int .i64 ((3 : Nat) : Int)] w (Rd w [bS 98] 4) := by
  obtain ⟨a0, a1, a2, a3, a4, a5, a6⟩ := k_at
  refine rbranch_calls kTxt w (by decide) [⟨3, 4, false, [bS 98]⟩] 3 (by decide) (fun j => j + 3) rfl ?_ ?_ (.inr (.inr a4)) (by decide)
  · intro j hj
    obtain rfl : j = 0 := by simpa using hj
    exact ⟨_, rfl, ⟨by decide, ⟨98, a3, by decide, by decide⟩, fun W _ => ratom_at kTxt 3 98 W a3 (by decide) (k_plain 98 (.inr (.inl rfl))), .inr ⟨41, a4, by decide⟩, by decide, by decide⟩, rfl, rfl⟩
  · intro j hj
    simp at hj
    rw [k_size]
    omega
theorem k_text1 (w : World) : Calls Tryd.prog 72 #[.string kTxt, .int .i64 ((1 : Nat) : Int)] w (Rd w [bS 97, bS 98, kStp 4] 4) := by
  obtain ⟨a0, a1, a2, a3, a4, a5, a6⟩ := k_at
  refine rtext_calls kTxt w (by decide) ⟨1, 2, [bS 97]⟩ [⟨3, 4, [bS 98]⟩] (by decide) ⟨by decide, by decide, fun W _ => k_branch1 W⟩ (fun j => 2 * j + 2) rfl ?_ ?_ (.inr ⟨41, a4, by decide⟩) (by decide)
  · intro j hj
    obtain rfl : j = 0 := by simpa using hj
    exact ⟨_, rfl, ⟨by decide, by decide, fun W _ => k_branch3 W⟩, a2, rfl, rfl⟩
  · intro j hj
    simp at hj
    rw [k_size]
    omega
theorem k_atom0 (w : World) : Calls Tryd.prog 101 #[.string kTxt, .int .i64 ((0 : Nat) : Int)] w (Rd w [bS 97, bS 98, kStp 4] 5) := by
  obtain ⟨a0, a1, a2, a3, a4, a5, a6⟩ := k_at
  exact ratom_in kTxt 0 4 _ w a0 a4 (by decide) (k_text1 w)
theorem k_branch0 (w : World) : Calls Tryd.prog 91 #[.string kTxt, .int .i64 ((0 : Nat) : Int)] w (Rd w kL 7) := by
  obtain ⟨a0, a1, a2, a3, a4, a5, a6⟩ := k_at
  refine rbranch_calls kTxt w (by decide) [⟨0, 5, true, [bS 97, bS 98, kStp 4]⟩, ⟨6, 7, false, [bS 99]⟩] 0 (by decide) (fun j => if j = 0 then 0 else if j = 1 then 6 else 7) rfl ?_ ?_ (.inl rfl) (by decide)
  · intro j hj
    have hj' : j = 0 ∨ j = 1 := by simp at hj; omega
    rcases hj' with rfl | rfl
    · exact ⟨_, rfl, ⟨by decide, ⟨40, a0, by decide, by decide⟩, fun W _ => k_atom0 W, ⟨a5, .inr ⟨99, a6, by decide⟩⟩, by decide, by decide⟩, rfl, rfl⟩
    · exact ⟨_, rfl, ⟨by decide, ⟨99, a6, by decide, by decide⟩, fun W _ => ratom_at kTxt 6 99 W a6 (by decide) (k_plain 99 (.inr (.inr rfl))), .inl rfl, by decide, by decide⟩, rfl, rfl⟩
  · intro j hj
    rw [k_size]
    split
    · omega
    · split <;> omega
theorem k_text0 (w : World) : Calls Tryd.prog 72 #[.string kTxt, .int .i64 ((0 : Nat) : Int)] w (Rd w kL 7) :=
  rtext_calls kTxt w (by decide) ⟨0, 7, kL⟩ [] (by decide) ⟨by decide, by decide, fun W _ => k_branch0 W⟩ (fun _ => 7) rfl (fun j hj => by simp at hj) (fun _ _ => by decide) (.inl rfl) (by decide)
set_option maxRecDepth 100000 in
theorem k_read (w : World) : Calls Tryd.prog 46 #[.string ⟨#[40, 97, 124, 98, 41, 42, 99]⟩] w fun e w' => (∃ v, e = .returned (.tuple #[v, .int .i64 7, .int .i64 0]) ∧ RowX w' w.heap.size v kL) ∧ Below w.heap.size w w' := by
  have HT := hidden (k_text0 w)
  go_enter Tryd.func46, Tryd.ntmps46
  go_wp2_with fail
  refine HT.out.mono ?_
  rintro e w1 ⟨v, rfl, hr, hb1⟩
  obtain ⟨a1, c1, rfl⟩ : ∃ a c, v = .slice a 6 c := by
    rcases ownsRow_forms hr with ⟨rfl, h0⟩ | ⟨g, cap, rfl⟩
    · cases h0
    · exact ⟨_, _, rfl⟩
  go_wp2
  go_ret3
  exact ⟨⟨_, rfl, hr⟩, hb1⟩
end Go.Proofs.YtbokhofdgdcpdaaDoor

/- What the tree of an expression matches, and what is told of all that it matches. Of no program. -/
namespace Go.Proofs.YtbokhofdgdcpdaaDoor

/-- one or more words, put together -/
inductive Many (P : List Nat → Prop) : List Nat → Prop
  | one {u : List Nat} (h : P u) : Many P u
  | more {u v : List Nat} (h : P u) (t : Many P v) : Many P (u ++ v)
def Lang : Ex → List Nat → Prop
  | .set f, u => ∃ c, u = [c] ∧ c < 256 ∧ f c = true
  | .emp, u => u = []
  | .cat a b, u => ∃ x y, u = x ++ y ∧ Lang a x ∧ Lang b y
  | .alt a b, u => Lang a u ∨ Lang b u
  | .un k a, u => if k = 5 then u = [] ∨ Many (Lang a) u else if k = 6 then Many (Lang a) u else u = [] ∨ Lang a u
/-- is the empty word matched? -/
def nul : Ex → Bool
  | .set _ => false
  | .emp => true
  | .cat a b => nul a && nul b
  | .alt a b => nul a || nul b
  | .un k a => if k = 6 then nul a else true
theorem many_nil {P : List Nat → Prop} (h : Many P []) : P [] := by
  generalize hu : ([] : List Nat) = u at h
  induction h with
  | one h => exact h
  | @more x y hx t ih =>
    obtain ⟨rfl, rfl⟩ := List.append_eq_nil_iff.1 hu.symm
    exact hx
theorem nul_iff : ∀ e : Ex, e.ok → (nul e = true ↔ Lang e [])
  | .set f, _ => by simp [nul, Lang]
  | .emp, _ => by simp [nul, Lang]
  | .cat a b, ⟨ha, hb⟩ => by
    simp only [nul, Lang, Bool.and_eq_true, nul_iff a ha, nul_iff b hb]
    constructor
    · exact fun h => ⟨[], [], rfl, h.1, h.2⟩
    · rintro ⟨x, y, h, h1, h2⟩
      obtain ⟨rfl, rfl⟩ := List.append_eq_nil_iff.1 h.symm
      exact ⟨h1, h2⟩
  | .alt a b, ⟨ha, hb⟩ => by simp only [nul, Lang, Bool.or_eq_true, nul_iff a ha, nul_iff b hb]
  | .un k a, ⟨hk, ha⟩ => by
    have ih := nul_iff a ha
    rcases hk with rfl | rfl | rfl
    · simp [nul, Lang]
    · simp only [nul, Lang, if_true]
      rw [if_neg (by decide), ih]
      exact ⟨.one, many_nil⟩
    · simp [nul, Lang]

/-! ### how short, how long -/
def noneF (f : Nat → Bool) : Bool := (List.range 256).all fun n => !f n
theorem noneF_iff (f : Nat → Bool) : noneF f = true ↔ ∀ n, n < 256 → f n = false := by
  simp [noneF]
/-- how many bytes the shortest word has; -1: there is none -/
def shE : Ex → Int
  | .set f => if noneF f = true then -1 else 1
  | .emp => 0
  | .cat a b => if shE a = -1 ∨ shE b = -1 then -1 else shE a + shE b
  | .alt a b => if shE a = -1 ∨ shE b = -1 then max (shE a) (shE b) else min (shE a) (shE b)
  | .un k a => if k = 6 then shE a else 0
def lgr (a b : Int) : Int := if a = -2 ∨ b = -2 then -2 else max a b
def rep (a : Int) : Int := if 0 < a then -2 else a
theorem rep_spec (a : Int) : (0 < a ∧ rep a = -2) ∨ (a ≤ 0 ∧ rep a = a) := by
  unfold rep
  split <;> omega
theorem lgr_spec (a b : Int) : ((a = -2 ∨ b = -2) ∧ lgr a b = -2) ∨ (a ≠ -2 ∧ b ≠ -2 ∧ lgr a b = max a b) := by
  unfold lgr
  split <;> omega
/-- how many bytes the longest word has; -1: there is none; -2: longer than any -/
def loE : Ex → Int
  | .set f => if noneF f = true then -1 else 1
  | .emp => 0
  | .cat a b => if loE a = -1 ∨ loE b = -1 then -1 else if loE a = -2 ∨ loE b = -2 then -2 else loE a + loE b
  | .alt a b => lgr (loE a) (loE b)
  | .un k a => if k = 5 then lgr (rep (loE a)) 0 else if k = 6 then rep (loE a) else lgr (loE a) 0
theorem sh_range : ∀ e : Ex, -1 ≤ shE e ∧ shE e ≤ (ops e).length
  | .set f => by simp only [shE, ops, List.length_cons, List.length_nil]; split <;> omega
  | .emp => by simp [shE]
  | .cat a b => by
    have h1 := sh_range a
    have h2 := sh_range b
    simp only [shE, ops, List.length_append, List.length_cons, List.length_nil]
    split <;> omega
  | .alt a b => by
    have h1 := sh_range a
    have h2 := sh_range b
    simp only [shE, ops, List.length_append, List.length_cons, List.length_nil]
    split <;> omega
  | .un k a => by
    have h1 := sh_range a
    simp only [shE, ops, List.length_append, List.length_cons, List.length_nil]
    split <;> omega
theorem lo_range : ∀ e : Ex, -2 ≤ loE e ∧ loE e ≤ (ops e).length
  | .set f => by simp only [loE, ops, List.length_cons, List.length_nil]; split <;> omega
  | .emp => by simp [loE]
  | .cat a b => by
    have h1 := lo_range a
    have h2 := lo_range b
    simp only [loE, ops, List.length_append, List.length_cons, List.length_nil]
    split
    · omega
    · split <;> omega
  | .alt a b => by
    have h1 := lo_range a
    have h2 := lo_range b
    simp only [loE, lgr, ops, List.length_append, List.length_cons, List.length_nil]
    split <;> omega
  | .un k a => by
    have h1 := lo_range a
    simp only [loE, lgr, rep, ops, List.length_append, List.length_cons, List.length_nil]
    repeat' split
    all_goals omega
theorem sh_lo : ∀ e : Ex, e.ok → (shE e = -1 ↔ loE e = -1) ∧ (0 ≤ loE e → shE e ≤ loE e)
  | .set f, _ => by simp only [shE, loE]; split <;> simp
  | .emp, _ => by simp [shE, loE]
  | .cat a b, ⟨ha, hb⟩ => by
    have h1 := sh_lo a ha
    have h2 := sh_lo b hb
    have r1 := sh_range a
    have r2 := sh_range b
    have r3 := lo_range a
    have r4 := lo_range b
    simp only [shE, loE]
    repeat' split
    all_goals omega
  | .alt a b, ⟨ha, hb⟩ => by
    have h1 := sh_lo a ha
    have h2 := sh_lo b hb
    have r1 := sh_range a
    have r2 := sh_range b
    have r3 := lo_range a
    have r4 := lo_range b
    simp only [shE, loE, lgr]
    repeat' split
    all_goals omega
  | .un k a, ⟨hk, ha⟩ => by
    have h1 := sh_lo a ha
    have r1 := sh_range a
    have r3 := lo_range a
    have q1 := rep_spec (loE a)
    have q2 := lgr_spec (rep (loE a)) 0
    have q3 := lgr_spec (loE a) 0
    rcases hk with rfl | rfl | rfl
    · have e1 : shE (.un 5 a) = 0 := rfl
      have e2 : loE (.un 5 a) = lgr (rep (loE a)) 0 := rfl
      omega
    · have e1 : shE (.un 6 a) = shE a := rfl
      have e2 : loE (.un 6 a) = rep (loE a) := rfl
      omega
    · have e1 : shE (.un 7 a) = 0 := rfl
      have e2 : loE (.un 7 a) = lgr (loE a) 0 := rfl
      omega
theorem nul_sh : ∀ e : Ex, e.ok → (nul e = true ↔ shE e = 0)
  | .set f, _ => by simp only [shE, nul]; split <;> simp
  | .emp, _ => by simp [shE, nul]
  | .cat a b, ⟨ha, hb⟩ => by
    have r1 := sh_range a
    have r2 := sh_range b
    simp only [nul, shE, Bool.and_eq_true, nul_sh a ha, nul_sh b hb]
    split <;> omega
  | .alt a b, ⟨ha, hb⟩ => by
    have r1 := sh_range a
    have r2 := sh_range b
    simp only [nul, shE, Bool.or_eq_true, nul_sh a ha, nul_sh b hb]
    split <;> omega
  | .un k a, ⟨hk, ha⟩ => by
    have ih := nul_sh a ha
    rcases hk with rfl | rfl | rfl <;> simp [nul, shE, ih]
theorem many_len {P : List Nat → Prop} {m : Int} (_ : 0 ≤ m) (hP : ∀ u, P u → m ≤ u.length) {u : List Nat} (h : Many P u) : m ≤ u.length := by
  induction h with
  | one h => exact hP _ h
  | more h t ih => rw [List.length_append]; omega
theorem many_none {P : List Nat → Prop} (hP : ∀ u, ¬ P u) {u : List Nat} (h : Many P u) : False := by
  cases h with
  | one h => exact hP _ h
  | more h t => exact hP _ h
theorem many_nil_all {P : List Nat → Prop} (hP : ∀ u, P u → u = []) {u : List Nat} (h : Many P u) : u = [] := by
  induction h with
  | one h => exact hP _ h
  | more h t ih => rw [hP _ h, ih]; rfl
theorem sh_le : ∀ e : Ex, e.ok → ∀ u, Lang e u → shE e ≠ -1 ∧ shE e ≤ u.length
  | .set f, _, u, h => by
    obtain ⟨c, rfl, hc, hf⟩ := h
    have hn : ¬ noneF f = true := fun h => by
      have := (noneF_iff f).1 h c hc
      rw [hf] at this
      cases this
    simp [shE, hn]
  | .emp, _, u, h => by simp [shE]
  | .cat a b, ⟨ha, hb⟩, u, h => by
    obtain ⟨x, y, rfl, h1, h2⟩ := h
    have i1 := sh_le a ha x h1
    have i2 := sh_le b hb y h2
    have r1 := sh_range a
    have r2 := sh_range b
    simp only [shE, List.length_append]
    split <;> omega
  | .alt a b, ⟨ha, hb⟩, u, h => by
    have r1 := sh_range a
    have r2 := sh_range b
    simp only [shE]
    rcases h with h | h
    · have i1 := sh_le a ha u h
      split <;> omega
    · have i1 := sh_le b hb u h
      split <;> omega
  | .un k a, ⟨hk, ha⟩, u, h => by
    have r1 := sh_range a
    rcases hk with rfl | rfl | rfl
    · simp [shE]
    · simp only [Lang, if_true] at h
      rw [if_neg (by decide)] at h
      simp only [shE, if_true]
      have hne : shE a ≠ -1 := fun e => many_none (fun u hu => (sh_le a ha u hu).1 e) h
      exact ⟨hne, many_len (by omega) (fun u hu => (sh_le a ha u hu).2) h⟩
    · simp [shE]
theorem lo_ge : ∀ e : Ex, e.ok → ∀ u, Lang e u → loE e ≠ -1 ∧ (loE e = -2 ∨ u.length ≤ loE e)
  | .set f, ho, u, h => by
    have i0 := (sh_lo (.set f) ho).1
    have i1 := (sh_le (.set f) ho u h).1
    obtain ⟨c, rfl, hc, hf⟩ := h
    have : loE (.set f) ≠ -1 := fun e => i1 (i0.2 e)
    refine ⟨this, .inr ?_⟩
    simp only [loE] at this ⊢
    split
    · rename_i hn
      rw [if_pos hn] at this
      exact absurd rfl this
    · simp
  | .emp, _, u, h => by
    simp only [Lang] at h
    subst h
    simp [loE]
  | .cat a b, ⟨ha, hb⟩, u, h => by
    obtain ⟨x, y, rfl, h1, h2⟩ := h
    have i1 := lo_ge a ha x h1
    have i2 := lo_ge b hb y h2
    have r1 := lo_range a
    have r2 := lo_range b
    simp only [loE, List.length_append]
    repeat' split
    all_goals omega
  | .alt a b, ⟨ha, hb⟩, u, h => by
    have r1 := lo_range a
    have r2 := lo_range b
    simp only [loE, lgr]
    rcases h with h | h
    · have i1 := lo_ge a ha u h
      split <;> omega
    · have i1 := lo_ge b hb u h
      split <;> omega
  | .un k a, ⟨hk, ha⟩, u, h => by
    have r1 := lo_range a
    have key : Many (Lang a) u → rep (loE a) ≠ -1 ∧ (rep (loE a) = -2 ∨ u.length ≤ rep (loE a)) := fun hm => by
      have hne : loE a ≠ -1 := fun e => many_none (fun u hu => (lo_ge a ha u hu).1 e) hm
      unfold rep
      split
      · omega
      · by_cases h2 : loE a = -2
        · omega
        · have h0 : loE a = 0 := by omega
          have hu : u = [] := many_nil_all (fun v hv => by
            have := (lo_ge a ha v hv).2
            have : v.length = 0 := by omega
            exact List.length_eq_zero_iff.1 this) hm
          subst hu
          simp only [List.length_nil]
          omega
    rcases hk with rfl | rfl | rfl
    · simp only [Lang, if_true] at h
      simp only [loE, lgr, if_true]
      rcases h with rfl | h
      · simp only [List.length_nil]
        split <;> omega
      · have := key h
        split <;> omega
    · simp only [Lang, if_true] at h
      rw [if_neg (by decide)] at h
      have := key h
      simp only [loE, if_true]
      rw [if_neg (by decide)]
      exact this
    · simp only [Lang] at h
      rw [if_neg (by decide), if_neg (by decide)] at h
      simp only [loE, lgr]
      rw [if_neg (by decide), if_neg (by decide)]
      rcases h with rfl | h
      · simp only [List.length_nil]
        split <;> omega
      · have := lo_ge a ha u h
        split <;> omega

/-! ### the bytes -/
/-- some word, the empty one, first bytes, bytes used: as the program puts them together -/
structure Let where
  some : Bool
  null : Bool
  first : Nat → Bool
  used : Nat → Bool
def f2 (f g : Nat → Bool) (n : Nat) : Bool := f n || g n
def letE : Ex → Let
  | .set f => ⟨!noneF f, false, f, f⟩
  | .emp => ⟨true, true, fNone, fNone⟩
  | .cat a b => if (letE a).some = true ∧ (letE b).some = true then ⟨true, (letE a).null && (letE b).null, if (letE a).null = true then f2 (letE a).first (letE b).first else (letE a).first, f2 (letE a).used (letE b).used⟩ else ⟨false, false, fNone, fNone⟩
  | .alt a b => ⟨(letE a).some || (letE b).some, (letE a).null || (letE b).null, f2 (letE a).first (letE b).first, f2 (letE a).used (letE b).used⟩
  | .un k a => if k = 6 then letE a else ⟨true, true, (letE a).first, (letE a).used⟩
theorem let_some : ∀ e : Ex, e.ok → ((letE e).some = true ↔ shE e ≠ -1)
  | .set f, _ => by simp only [letE, shE]; cases noneF f <;> simp
  | .emp, _ => by simp [letE, shE]
  | .cat a b, ⟨ha, hb⟩ => by
    have i1 := let_some a ha
    have i2 := let_some b hb
    have r1 := sh_range a
    have r2 := sh_range b
    simp only [letE, shE, i1, i2]
    by_cases h : shE a ≠ -1 ∧ shE b ≠ -1
    · rw [if_pos h, if_neg (show ¬ (shE a = -1 ∨ shE b = -1) by omega)]
      exact iff_of_true rfl (by omega)
    · rw [if_neg h, if_pos (by omega)]
      simp
  | .alt a b, ⟨ha, hb⟩ => by
    have i1 := let_some a ha
    have i2 := let_some b hb
    have r1 := sh_range a
    have r2 := sh_range b
    simp only [letE, shE, Bool.or_eq_true, i1, i2]
    split <;> omega
  | .un k a, ⟨hk, ha⟩ => by
    have i1 := let_some a ha
    rcases hk with rfl | rfl | rfl <;> simp [letE, shE, i1]
theorem let_null : ∀ e : Ex, e.ok → (letE e).null = nul e
  | .set f, _ => rfl
  | .emp, _ => rfl
  | .cat a b, ⟨ha, hb⟩ => by
    have i1 := let_null a ha
    have i2 := let_null b hb
    simp only [letE, nul]
    split
    · rw [← i1, ← i2]
    · rename_i h
      symm
      rw [Bool.eq_false_iff]
      intro hn
      rw [Bool.and_eq_true, nul_sh a ha, nul_sh b hb] at hn
      exact h ⟨(let_some a ha).2 (by omega), (let_some b hb).2 (by omega)⟩
  | .alt a b, ⟨ha, hb⟩ => by simp only [letE, nul, let_null a ha, let_null b hb]
  | .un k a, ⟨hk, ha⟩ => by
    have i1 := let_null a ha
    rcases hk with rfl | rfl | rfl <;> simp [letE, nul, i1]
/-- where there is no word there is no byte -/
theorem let_none : ∀ e : Ex, e.ok → (letE e).some = false → ∀ n, n < 256 → (letE e).first n = false ∧ (letE e).used n = false
  | .set f, _, h, n, hn => by
    simp only [letE, Bool.not_eq_false'] at h
    have := (noneF_iff f).1 h n hn
    exact ⟨this, this⟩
  | .emp, _, h, n, hn => by simp [letE] at h
  | .cat a b, ⟨ha, hb⟩, h, n, hn => by
    simp only [letE] at h ⊢
    split
    · rename_i hc
      rw [if_pos hc] at h
      cases h
    · exact ⟨rfl, rfl⟩
  | .alt a b, ⟨ha, hb⟩, h, n, hn => by
    simp only [letE, Bool.or_eq_false_iff] at h ⊢
    have i1 := let_none a ha h.1 n hn
    have i2 := let_none b hb h.2 n hn
    simp [f2, i1, i2]
  | .un k a, ⟨hk, ha⟩, h, n, hn => by
    have i1 := let_none a ha
    rcases hk with rfl | rfl | rfl
    · simp [letE] at h
    · simp only [letE, if_true] at h ⊢
      exact i1 h n hn
    · simp [letE] at h
theorem many_all {P : List Nat → Prop} {q : Nat → Prop} (hP : ∀ u, P u → ∀ c ∈ u, q c) {u : List Nat} (h : Many P u) : ∀ c ∈ u, q c := by
  induction h with
  | one h => exact hP _ h
  | more h t ih =>
    intro c hc
    rcases List.mem_append.1 hc with hc | hc
    · exact hP _ h c hc
    · exact ih c hc
theorem many_head {P : List Nat → Prop} {q : Nat → Prop} (hP : ∀ c u, P (c :: u) → q c) {u : List Nat} (h : Many P u) : ∀ c v, u = c :: v → q c := by
  induction h with
  | one h => rintro c v rfl; exact hP c v h
  | @more x y hx t ih =>
    intro c v e
    cases x with
    | nil => exact ih c v e
    | cons d x => cases e; exact hP _ _ hx
theorem let_used : ∀ e : Ex, e.ok → ∀ u, Lang e u → ∀ c ∈ u, (letE e).used c = true
  | .set f, _, u, h, c, hc => by
    obtain ⟨d, rfl, hd, hf⟩ := h
    simp only [List.mem_singleton] at hc
    subst hc
    exact hf
  | .emp, _, u, h, c, hc => by
    simp only [Lang] at h
    subst h
    cases hc
  | .cat a b, ⟨ha, hb⟩, u, h, c, hc => by
    obtain ⟨x, y, rfl, h1, h2⟩ := h
    have s1 := (let_some a ha).2 (sh_le a ha x h1).1
    have s2 := (let_some b hb).2 (sh_le b hb y h2).1
    simp only [letE]
    rw [if_pos ⟨s1, s2⟩]
    simp only [f2, Bool.or_eq_true]
    rcases List.mem_append.1 hc with hc | hc
    · exact .inl (let_used a ha x h1 c hc)
    · exact .inr (let_used b hb y h2 c hc)
  | .alt a b, ⟨ha, hb⟩, u, h, c, hc => by
    simp only [letE, f2, Bool.or_eq_true]
    rcases h with h | h
    · exact .inl (let_used a ha u h c hc)
    · exact .inr (let_used b hb u h c hc)
  | .un k a, ⟨hk, ha⟩, u, h, c, hc => by
    have key : Many (Lang a) u → (letE a).used c = true := fun hm => many_all (q := fun c => (letE a).used c = true) (fun v hv => let_used a ha v hv) hm c hc
    rcases hk with rfl | rfl | rfl
    · simp only [Lang, if_true] at h
      rcases h with rfl | h
      · cases hc
      · simpa [letE] using key h
    · simp only [Lang, if_true] at h
      rw [if_neg (by decide)] at h
      simpa [letE] using key h
    · simp only [Lang] at h
      rw [if_neg (by decide), if_neg (by decide)] at h
      rcases h with rfl | h
      · cases hc
      · simpa [letE] using let_used a ha u h c hc
theorem let_first : ∀ e : Ex, e.ok → ∀ c u, Lang e (c :: u) → (letE e).first c = true
  | .set f, _, c, u, h => by
    obtain ⟨d, e, hd, hf⟩ := h
    cases e
    exact hf
  | .emp, _, c, u, h => by cases h
  | .cat a b, ⟨ha, hb⟩, c, u, h => by
    obtain ⟨x, y, e, h1, h2⟩ := h
    have s1 := (let_some a ha).2 (sh_le a ha x h1).1
    have s2 := (let_some b hb).2 (sh_le b hb y h2).1
    simp only [letE]
    rw [if_pos ⟨s1, s2⟩]
    cases x with
    | nil =>
      have hn : (letE a).null = true := by rw [let_null a ha]; exact (nul_iff a ha).2 h1
      rw [List.nil_append] at e
      subst e
      rw [if_pos hn]
      simp only [f2, Bool.or_eq_true]
      exact .inr (let_first b hb c u h2)
    | cons d x =>
      cases e
      have := let_first a ha c x h1
      simp only
      split
      · simp [f2, this]
      · exact this
  | .alt a b, ⟨ha, hb⟩, c, u, h => by
    simp only [letE, f2, Bool.or_eq_true]
    rcases h with h | h
    · exact .inl (let_first a ha c u h)
    · exact .inr (let_first b hb c u h)
  | .un k a, ⟨hk, ha⟩, c, u, h => by
    have key : Many (Lang a) (c :: u) → (letE a).first c = true := fun hm => many_head (q := fun c => (letE a).first c = true) (fun d v hv => let_first a ha d v hv) hm c u rfl
    rcases hk with rfl | rfl | rfl
    · simp only [Lang, if_true] at h
      rcases h with h | h
      · cases h
      · simpa [letE] using key h
    · simp only [Lang, if_true] at h
      rw [if_neg (by decide)] at h
      simpa [letE] using key h
    · simp only [Lang] at h
      rw [if_neg (by decide), if_neg (by decide)] at h
      rcases h with h | h
      · cases h
      · simpa [letE] using let_first a ha c u h
/-- the first bytes, and those used, as the reference puts them together -/
def rfiE : Ex → Nat → Bool
  | .set f => f
  | .emp => fNone
  | .cat a b => if shE b < 0 then fNone else if shE a = 0 then fun n => rfiE a n || rfiE b n else rfiE a
  | .alt a b => fun n => rfiE a n || rfiE b n
  | .un _ a => rfiE a
def rusE : Ex → Nat → Bool
  | .set f => f
  | .emp => fNone
  | .cat a b => if shE (.cat a b) < 0 then fNone else fun n => rusE a n || rusE b n
  | .alt a b => fun n => rusE a n || rusE b n
  | .un _ a => rusE a
theorem rfi_eq : ∀ e : Ex, e.ok → ∀ n, n < 256 → (letE e).first n = rfiE e n ∧ (letE e).used n = rusE e n
  | .set f, _, n, _ => ⟨rfl, rfl⟩
  | .emp, _, n, _ => ⟨rfl, rfl⟩
  | .cat a b, ⟨ha, hb⟩, n, hn => by
    have i1 := rfi_eq a ha n hn
    have i2 := rfi_eq b hb n hn
    have s1 := let_some a ha
    have s2 := let_some b hb
    have r1 := sh_range a
    have r2 := sh_range b
    have n1 := (let_null a ha).trans (show nul a = decide (shE a = 0) by
      have := nul_sh a ha
      cases h : nul a <;> simp [h] at this ⊢ <;> exact this)
    have e0 : shE (.cat a b) = if shE a = -1 ∨ shE b = -1 then -1 else shE a + shE b := rfl
    simp only [letE, rfiE, rusE]
    by_cases c1 : shE a = -1
    · have e1 : (letE a).some = false := by rw [Bool.eq_false_iff]; exact fun h => s1.1 h c1
      have i3 := let_none a ha e1 n hn
      rw [if_pos (.inl c1)] at e0
      rw [if_neg (by rw [e1]; simp), if_pos (show shE (.cat a b) < 0 by omega), if_neg (show ¬ shE a = 0 by omega)]
      refine ⟨?_, rfl⟩
      split
      · rfl
      · rw [← i1.1, i3.1]; rfl
    · by_cases c2 : shE b = -1
      · have e2 : (letE b).some = false := by rw [Bool.eq_false_iff]; exact fun h => s2.1 h c2
        rw [if_pos (.inr c2)] at e0
        rw [if_neg (by rw [e2]; simp), if_pos (show shE b < 0 by omega), if_pos (show shE (.cat a b) < 0 by omega)]
        exact ⟨rfl, rfl⟩
      · rw [if_neg (by omega)] at e0
        rw [if_pos ⟨s1.2 c1, s2.2 c2⟩, if_neg (show ¬ shE b < 0 by omega), if_neg (show ¬ shE (.cat a b) < 0 by omega), n1]
        simp only [decide_eq_true_eq]
        refine ⟨?_, by simp only [f2, i1.2, i2.2]⟩
        split
        · simp only [f2, i1.1, i2.1]
        · exact i1.1
  | .alt a b, ⟨ha, hb⟩, n, hn => by
    have i1 := rfi_eq a ha n hn
    have i2 := rfi_eq b hb n hn
    simp only [letE, rfiE, rusE, f2, i1.1, i2.1, i1.2, i2.2, and_self]
  | .un k a, ⟨hk, ha⟩, n, hn => by
    have i1 := rfi_eq a ha n hn
    rcases hk with rfl | rfl | rfl <;> simp [letE, rfiE, rusE, i1]
end Go.Proofs.YtbokhofdgdcpdaaDoor

/- The reference's Begin, at the steps of a tree. -/
namespace Go.Proofs.YtbokhofdgdcpdaaDoor
open Go.RowKit Go.Lib Go.Joins

/-- block b has the steps L from place off on -/
def Lay (b off : Nat) (L : List Stp) (W : World) : Prop := b < W.heap.size ∧ ∀ i, i < L.length → RxAt W b (off + i * 5) (L.getD i default)
theorem Lay.below {b off : Nat} {L : List Stp} {W W' : World} (h : Lay b off L W) (hb : Below W.heap.size W W') : Lay b off L W' := ⟨Nat.lt_of_lt_of_le h.1 hb.size, fun i hi => (h.2 i hi).kept (hb.block b h.1)⟩
theorem getD_end (x u z : List Stp) (s : Stp) : (x ++ (u ++ [s]) ++ z).getD (x.length + u.length) default = s := by
  rw [List.getD_eq_getElem?_getD, List.getElem?_append_left (by simp), List.getElem?_append_right (by omega), List.getElem?_append_right (by omega)]
  simp
theorem ops_last : ∀ e : Ex, ∃ u s, ops e = u ++ [s] ∧ s.k = e.kind
  | .set f => ⟨[], sStp f, rfl, rfl⟩
  | .emp => ⟨[], kStp 2, rfl, rfl⟩
  | .cat a b => ⟨ops a ++ ops b, kStp 3, rfl, rfl⟩
  | .alt a b => ⟨ops a ++ ops b, kStp 4, rfl, rfl⟩
  | .un k a => ⟨ops a, kStp k, rfl, rfl⟩
theorem ops_pos (e : Ex) : 1 ≤ (ops e).length := by
  obtain ⟨u, s, h, _⟩ := ops_last e
  rw [h]
  simp
theorem at_end {L x z : List Stp} {e : Ex} {i : Nat} (hL : L = x ++ ops e ++ z) (hi : i + 1 = x.length + (ops e).length) : i < L.length ∧ (L.getD i default).k = e.kind := by
  obtain ⟨u, s, h, hs⟩ := ops_last e
  rw [h] at hL hi
  simp only [List.length_append, List.length_cons, List.length_nil] at hi
  have hi' : i = x.length + u.length := by omega
  subst hi'
  refine ⟨by rw [hL]; simp only [List.length_append, List.length_cons, List.length_nil]; omega, ?_⟩
  rw [hL, getD_end, hs]
section
variable {b off cap : Nat} {L : List Stp} {w : World}
theorem Lay.kind (h : Lay b off L w) {i : Nat} (hi : i < L.length) {k : Int} (hk : (L.getD i default).k = k) : w.cell? ⟨b, off + i * 5, none⟩ = some (.int .i64 k) := by
  rw [← hk]
  exact (h.2 i hi).1
set_option maxRecDepth 100000 in
theorem begin0 (h : Lay b off L w) {i : Nat} (hi : i < L.length) {k : Int} (hk : (L.getD i default).k = k) (ho : kOps k = 0) (_ : L.length ≤ 1000) :
    Calls Tryd.prog 77 #[.slice (some ⟨b, off, none⟩) L.length cap, .int .i64 i] w fun e w' => e = .returned (.int .i64 i) ∧ w = w' := by
  have c0 := h.kind hi hk
  have hK := rof_calls k
  rw [ho] at hK
  have HK := hidden hK
  generalize L.length = n at *
  have q0 : decide ((i : Int) < 0) = false := decide_eq_false (by omega)
  have q1 : decide ((n : Int) ≤ i) = false := decide_eq_false (by omega)
  have q2 : decide (n ≤ i) = false := decide_eq_false (by omega)
  clear h hk hK ho
  go_enter Tryd.func77, Tryd.ntmps77
  go_wp2_with fail
  refine (HK.out _).mono ?_
  rintro e w1 ⟨rfl, rfl⟩
  go_wp2
  refine wp_loop_rounds 1 ?_
  rw [rounds_succ]
  go_wp2
  go_ret
  exact ⟨rfl, rfl⟩
set_option maxRecDepth 100000 in
theorem begin1 (h : Lay b off L w) {i j y : Nat} (hi : i < L.length) {k : Int} (hk : (L.getD i default).k = k) (ho : kOps k = 1) (hl : L.length ≤ 1000) (hj : j + 1 = i) (hy : y ≤ 1000)
    (H1 : Calls Tryd.prog 77 #[.slice (some ⟨b, off, none⟩) L.length cap, .int .i64 j] w fun e w' => e = .returned (.int .i64 y) ∧ w = w') :
    Calls Tryd.prog 77 #[.slice (some ⟨b, off, none⟩) L.length cap, .int .i64 i] w fun e w' => e = .returned (.int .i64 y) ∧ w = w' := by
  have c0 := h.kind hi hk
  have hK := rof_calls k
  rw [ho] at hK
  have HK := hidden hK
  have HC := hidden H1
  generalize L.length = n at *
  have q0 : decide ((i : Int) < 0) = false := decide_eq_false (by omega)
  have q1 : decide ((n : Int) ≤ i) = false := decide_eq_false (by omega)
  have q2 : decide (n ≤ i) = false := decide_eq_false (by omega)
  have q3 : decide ((y : Int) < 0) = false := decide_eq_false (by omega)
  have hsub : IntKind.i64.wrap ((i : Int) - 1) = j := by rw [IntKind.wrap_i64]; omega
  clear h hk hK ho H1 hj
  go_enter Tryd.func77, Tryd.ntmps77
  go_wp2_with fail
  refine (HK.out _).mono ?_
  rintro e w1 ⟨rfl, rfl⟩
  go_wp2
  refine wp_loop_rounds 2 ?_
  rw [rounds_succ]
  go_wp2_with fail
  refine HC.out.mono ?_
  rintro e w1 ⟨rfl, rfl⟩
  go_wp2
  rw [rounds_succ]
  go_wp2
  go_ret
  exact ⟨rfl, rfl⟩
set_option maxRecDepth 100000 in
theorem begin2 (h : Lay b off L w) {i j y j2 y2 : Nat} (hi : i < L.length) {k : Int} (hk : (L.getD i default).k = k) (ho : kOps k = 2) (hl : L.length ≤ 1000) (hj : j + 1 = i) (hy : y ≤ 1000) (hj2 : j2 + 1 = y) (hy2 : y2 ≤ 1000)
    (H1 : Calls Tryd.prog 77 #[.slice (some ⟨b, off, none⟩) L.length cap, .int .i64 j] w fun e w' => e = .returned (.int .i64 y) ∧ w = w')
    (H2 : Calls Tryd.prog 77 #[.slice (some ⟨b, off, none⟩) L.length cap, .int .i64 j2] w fun e w' => e = .returned (.int .i64 y2) ∧ w = w') :
    Calls Tryd.prog 77 #[.slice (some ⟨b, off, none⟩) L.length cap, .int .i64 i] w fun e w' => e = .returned (.int .i64 y2) ∧ w = w' := by
  have c0 := h.kind hi hk
  have hK := rof_calls k
  rw [ho] at hK
  have HK := hidden hK
  have HC := hidden H1
  have HD := hidden H2
  generalize L.length = n at *
  have q0 : decide ((i : Int) < 0) = false := decide_eq_false (by omega)
  have q1 : decide ((n : Int) ≤ i) = false := decide_eq_false (by omega)
  have q2 : decide (n ≤ i) = false := decide_eq_false (by omega)
  have q3 : decide ((y : Int) < 0) = false := decide_eq_false (by omega)
  have q4 : decide ((y2 : Int) < 0) = false := decide_eq_false (by omega)
  have hsub : IntKind.i64.wrap ((i : Int) - 1) = j := by rw [IntKind.wrap_i64]; omega
  have hsub2 : IntKind.i64.wrap ((y : Int) - 1) = j2 := by rw [IntKind.wrap_i64]; omega
  clear h hk hK ho H1 H2 hj hj2
  go_enter Tryd.func77, Tryd.ntmps77
  go_wp2_with fail
  refine (HK.out _).mono ?_
  rintro e w1 ⟨rfl, rfl⟩
  go_wp2
  refine wp_loop_rounds 3 ?_
  rw [rounds_succ]
  go_wp2_with fail
  refine HC.out.mono ?_
  rintro e w1 ⟨rfl, rfl⟩
  go_wp2
  rw [rounds_succ]
  go_wp2_with fail
  refine HD.out.mono ?_
  rintro e w1 ⟨rfl, rfl⟩
  go_wp2
  rw [rounds_succ]
  go_wp2
  go_ret
  exact ⟨rfl, rfl⟩
theorem rbegin_calls (h : Lay b off L w) (hl : L.length ≤ 1000) : ∀ (e : Ex), e.ok → ∀ (x z : List Stp) (i : Nat), L = x ++ ops e ++ z → i + 1 = x.length + (ops e).length →
    Calls Tryd.prog 77 #[.slice (some ⟨b, off, none⟩) L.length cap, .int .i64 i] w fun e' w' => e' = .returned (.int .i64 x.length) ∧ w = w'
  | .set f, _, x, z, i, hL, hi => by
    obtain ⟨h1, h2⟩ := at_end hL hi
    have hx : i = x.length := by simp [ops] at hi; omega
    subst hx
    exact begin0 h h1 h2 rfl hl
  | .emp, _, x, z, i, hL, hi => by
    obtain ⟨h1, h2⟩ := at_end hL hi
    have hx : i = x.length := by simp [ops] at hi; omega
    subst hx
    exact begin0 h h1 h2 rfl hl
  | .un k a, ⟨hk, ha⟩, x, z, i, hL, hi => by
    obtain ⟨h1, h2⟩ := at_end hL hi
    have hp := ops_pos a
    have hlen : (ops (.un k a)).length = (ops a).length + 1 := by simp [ops]
    rw [hlen] at hi
    have hxl : x.length ≤ 1000 := by rw [hL] at hl; simp only [List.length_append] at hl; omega
    exact begin1 (j := i - 1) h h1 h2 (by rcases hk with rfl | rfl | rfl <;> rfl) hl (by omega) hxl (rbegin_calls h hl a ha x ([kStp k] ++ z) (i - 1) (by rw [hL]; simp [ops]) (by omega))
  | .cat a c, ⟨ha, hc⟩, x, z, i, hL, hi => by
    obtain ⟨h1, h2⟩ := at_end hL hi
    have hp := ops_pos a
    have hp2 := ops_pos c
    have hlen : (ops (.cat a c)).length = (ops a).length + (ops c).length + 1 := by simp [ops]; omega
    rw [hlen] at hi
    have hxl : x.length + (ops a).length ≤ 1000 := by rw [hL] at hl; simp only [List.length_append] at hl; omega
    have H1 := rbegin_calls h hl c hc (x ++ ops a) ([kStp 3] ++ z) (i - 1) (by rw [hL]; simp [ops]) (by simp only [List.length_append]; omega)
    rw [List.length_append] at H1
    exact begin2 (j := i - 1) (j2 := x.length + (ops a).length - 1) h h1 h2 rfl hl (by omega) hxl (by omega) (by omega) H1 (rbegin_calls h hl a ha x (ops c ++ [kStp 3] ++ z) _ (by rw [hL]; simp [ops]) (by omega))
  | .alt a c, ⟨ha, hc⟩, x, z, i, hL, hi => by
    obtain ⟨h1, h2⟩ := at_end hL hi
    have hp := ops_pos a
    have hp2 := ops_pos c
    have hlen : (ops (.alt a c)).length = (ops a).length + (ops c).length + 1 := by simp [ops]; omega
    rw [hlen] at hi
    have hxl : x.length + (ops a).length ≤ 1000 := by rw [hL] at hl; simp only [List.length_append] at hl; omega
    have H1 := rbegin_calls h hl c hc (x ++ ops a) ([kStp 4] ++ z) (i - 1) (by rw [hL]; simp [ops]) (by simp only [List.length_append]; omega)
    rw [List.length_append] at H1
    exact begin2 (j := i - 1) (j2 := x.length + (ops a).length - 1) h h1 h2 rfl hl (by omega) hxl (by omega) (by omega) H1 (rbegin_calls h hl a ha x (ops c ++ [kStp 4] ++ z) _ (by rw [hL]; simp [ops]) (by omega))
end
end Go.Proofs.YtbokhofdgdcpdaaDoor
