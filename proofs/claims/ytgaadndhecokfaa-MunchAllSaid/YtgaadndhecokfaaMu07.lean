/- TxtTree, TxtForm, FaLang, TxtRefK, put together. -/
import Derived.Test.YtgaadndhecokfaaMu06
import Derived.Test.YtgaadndhecokfaaMu05
/- Expressions as trees, printed, and the reader that keeps operators waiting: what is printed is read as it. Of no program. -/
namespace Go.Proofs.Ytgaadndhecokfaa

def sStp (f : Nat → Bool) : Stp := ⟨1, word f 0, word f 1, word f 2, word f 3⟩
inductive Ex where
  | set (f : Nat → Bool)
  | emp
  | cat (a b : Ex)
  | alt (a b : Ex)
  | un (k : Int) (a : Ex)
def Ex.kind : Ex → Int
  | .set _ => 1
  | .emp => 2
  | .cat _ _ => 3
  | .alt _ _ => 4
  | .un k _ => k
def Ex.ok : Ex → Prop
  | .set _ => True
  | .emp => True
  | .cat a b => a.ok ∧ b.ok
  | .alt a b => a.ok ∧ b.ok
  | .un k a => (k = 5 ∨ k = 6 ∨ k = 7) ∧ a.ok
def ops : Ex → List Stp
  | .set f => [sStp f]
  | .emp => [kStp 2]
  | .cat a b => ops a ++ ops b ++ [kStp 3]
  | .alt a b => ops a ++ ops b ++ [kStp 4]
  | .un k a => ops a ++ [kStp k]
/-! ### the reader -/
/-! ### what is printed is read -/
end Go.Proofs.Ytgaadndhecokfaa

/- Valid lists of steps are those of one tree; how long its text is. Of no program. -/
namespace Go.Proofs.Ytgaadndhecokfaa

/-- the words of a step are words -/
def Stp.wide (s : Stp) : Prop := (0 ≤ s.a ∧ s.a ≤ 18446744073709551615) ∧ (0 ≤ s.b ∧ s.b ≤ 18446744073709551615) ∧ (0 ≤ s.c ∧ s.c ≤ 18446744073709551615) ∧ (0 ≤ s.d ∧ s.d ≤ 18446744073709551615)
def bitsE (s : Stp) : Nat → Bool := mem s.a.toNat s.b.toNat s.c.toNat s.d.toNat
theorem bitsE_step {s : Stp} (hk : s.k = 1) (hw : s.wide) : s = sStp (bitsE s) := by
  obtain ⟨h1, h2, h3, h4⟩ := hw
  obtain ⟨m0, m1, m2, m3⟩ := word_mem (a := s.a.toNat) (b := s.b.toNat) (c := s.c.toNat) (d := s.d.toNat) (by omega) (by omega) (by omega) (by omega)
  obtain ⟨k, a, b, c, d⟩ := s
  unfold sStp bitsE
  simp only at hk h1 h2 h3 h4 m0 m1 m2 m3 ⊢
  rw [m0, m1, m2, m3, hk]
  simp only [Stp.mk.injEq, true_and]
  omega
theorem bitsE_words {s : Stp} (hw : s.wide) : (word (bitsE s) 0 : Int) = s.a ∧ (word (bitsE s) 1 : Int) = s.b ∧ (word (bitsE s) 2 : Int) = s.c ∧ (word (bitsE s) 3 : Int) = s.d := by
  obtain ⟨h1, h2, h3, h4⟩ := hw
  obtain ⟨m0, m1, m2, m3⟩ := word_mem (a := s.a.toNat) (b := s.b.toNat) (c := s.c.toNat) (d := s.d.toNat) (by omega) (by omega) (by omega) (by omega)
  unfold bitsE
  rw [m0, m1, m2, m3]
  omega
/-- a step puts trees together: the last one stands first -/
def pushE (s : Stp) (t : List Ex) : List Ex :=
  if s.k = 1 then .set (bitsE s) :: t else if s.k = 2 then .emp :: t else
  if s.k = 3 then (match t with | b :: a :: r => .cat a b :: r | _ => t) else
  if s.k = 4 then (match t with | b :: a :: r => .alt a b :: r | _ => t) else (match t with | a :: r => .un s.k a :: r | _ => t)
def treeGo : List Stp → List Ex → List Ex
  | [], t => t
  | s :: r, t => treeGo r (pushE s t)
theorem treeGo_append : ∀ (a b : List Stp) (t : List Ex), treeGo (a ++ b) t = treeGo b (treeGo a t)
  | [], _, _ => rfl
  | s :: r, b, t => treeGo_append r b (pushE s t)
def trees (L : List Stp) (k : Nat) : List Ex := (treeGo (L.take k) []).reverse
def treeE (L : List Stp) : Ex := (treeGo L []).headD .emp
/-- what a step does to the trees, the last one standing last -/
inductive Next (s : Stp) : List Ex → List Ex → Prop
  | set (r) (h : s.k = 1) (e : s = sStp (bitsE s)) : Next s r (r ++ [.set (bitsE s)])
  | emp (r) (e : s = kStp 2) : Next s r (r ++ [.emp])
  | cat (r a b) (e : s = kStp 3) : Next s (r ++ [a, b]) (r ++ [.cat a b])
  | alt (r a b) (e : s = kStp 4) : Next s (r ++ [a, b]) (r ++ [.alt a b])
  | un (r a) (e : s = kStp s.k) (h : s.k = 5 ∨ s.k = 6 ∨ s.k = 7) : Next s (r ++ [a]) (r ++ [.un s.k a])
theorem ops_expr : ∀ e : Ex, e.ok → Expr (ops e)
  | .set f, _ => by
    refine ⟨⟨⟨by show 0 ≤ kOps 1; decide, .inl rfl⟩, by show kOps 1 ≤ 0; decide, trivial⟩, ?_⟩
    show (1 - kOps 1) + 0 = 1
    decide
  | .emp, _ => by
    refine ⟨⟨⟨by show 0 ≤ kOps 2; decide, .inr ⟨rfl, rfl, rfl, rfl⟩⟩, by show kOps 2 ≤ 0; decide, trivial⟩, ?_⟩
    show (1 - kOps 2) + 0 = 1
    decide
  | .cat a b, ⟨ha, hb⟩ => expr_two (ops_expr a ha) (ops_expr b hb) (.inl rfl)
  | .alt a b, ⟨ha, hb⟩ => expr_two (ops_expr a ha) (ops_expr b hb) (.inr rfl)
  | .un k a, ⟨hk, ha⟩ => expr_one (ops_expr a ha) hk
theorem flat_net : ∀ es : List Ex, (∀ e ∈ es, e.ok) → net (es.flatMap ops) = es.length
  | [], _ => rfl
  | e :: r, h => by
    rw [List.flatMap_cons, net_append, (ops_expr e (h e (by simp))).2, flat_net r fun x hx => h x (by simp [hx])]
    simp only [List.length_cons]
    omega
/-- trees of a list of steps -/
def Forms (L : List Stp) (es : List Ex) : Prop := es.flatMap ops = L ∧ ∀ e ∈ es, e.ok
theorem Forms.put {L : List Stp} {r q : List Ex} {e : Ex} {s : Stp} (h : Forms L (r ++ q)) (he : e.ok) (ho : ops e = q.flatMap ops ++ [s]) : Forms (L ++ [s]) (r ++ [e]) := by
  refine ⟨?_, fun x hx => ?_⟩
  · rw [← h.1]
    simp [ho]
  · simp only [List.mem_append, List.mem_singleton] at hx
    rcases hx with hx | rfl
    · exact h.2 x (by simp [hx])
    · exact he
theorem kind_cases {k : Int} (h : 0 ≤ kOps k) : k = 1 ∨ k = 2 ∨ k = 3 ∨ k = 4 ∨ (k = 5 ∨ k = 6 ∨ k = 7) := by
  unfold kOps at h
  split at h
  · omega
  · split at h
    · omega
    · split at h
      · omega
      · omega
theorem next_of {L : List Stp} {k : Nat} (hk : k < L.length) (hG : Goes L 0) (hw : ∀ s ∈ L, s.wide) (hF : Forms (L.take k) (trees L k)) :
    Next (L.getD k default) (trees L k) (trees L (k + 1)) ∧ Forms (L.take (k + 1)) (trees L (k + 1)) := by
  have hget : L.getD k default = L[k] := by rw [List.getD_eq_getElem?_getD, List.getElem?_eq_getElem hk]; rfl
  have htk : L.take (k + 1) = L.take k ++ [L[k]] := (List.take_append_getElem hk).symm
  have htr : trees L (k + 1) = (pushE L[k] (treeGo (L.take k) [])).reverse := by
    unfold trees
    rw [htk, treeGo_append]
    rfl
  have hsp : L = L.take k ++ (L[k] :: L.drop (k + 1)) := by
    rw [List.getElem_cons_drop, List.take_append_drop]
  have hG2 := hG
  rw [hsp, goes_append] at hG2
  obtain ⟨⟨hg0, hpl⟩, hle, _⟩ := hG2.2
  rw [← hF.1, flat_net _ hF.2] at hle
  have hwd := hw L[k] (List.getElem_mem hk)
  rw [hget, htr, htk]
  unfold trees at hF hle ⊢
  generalize treeGo (L.take k) [] = t at *
  generalize L[k] = s at *
  generalize L.take k = M at *
  rw [List.length_reverse] at hle
  have hko : ∀ j, s.k = j → j ≠ 1 → s = kStp j := fun j hj h1 => by
    rcases hpl with h | ⟨h2, h3, h4, h5⟩
    · omega
    · obtain ⟨k', a', b', c', d'⟩ := s
      simp only at hj h2 h3 h4 h5
      subst hj h2 h3 h4 h5
      rfl
  rcases kind_cases hg0 with h | h | h | h | h
  · have hs := bitsE_step h hwd
    unfold pushE
    rw [if_pos h, List.reverse_cons]
    exact ⟨.set _ h hs, Forms.put (q := []) (by simpa using hF) trivial (by simpa [ops] using hs.symm)⟩
  · have hs := hko 2 h (by decide)
    unfold pushE
    rw [if_neg (by omega), if_pos h, List.reverse_cons]
    exact ⟨.emp _ hs, Forms.put (q := []) (by simpa using hF) trivial (by simpa [ops] using hs.symm)⟩
  · have hs := hko 3 h (by decide)
    rw [h, show kOps 3 = 2 from rfl] at hle
    match t, hle with
    | b :: a :: r, _ =>
      unfold pushE
      rw [if_neg (by omega), if_neg (by omega), if_pos h]
      simp only [List.reverse_cons, List.append_assoc, List.cons_append, List.nil_append] at hF ⊢
      refine ⟨.cat _ a b hs, Forms.put (q := [a, b]) hF ⟨hF.2 a (by simp), hF.2 b (by simp)⟩ ?_⟩
      rw [hs]
      simp [ops]
    | [a], hle => simp at hle
    | [], hle => simp at hle
  · have hs := hko 4 h (by decide)
    rw [h, show kOps 4 = 2 from rfl] at hle
    match t, hle with
    | b :: a :: r, _ =>
      unfold pushE
      rw [if_neg (by omega), if_neg (by omega), if_neg (by omega), if_pos h]
      simp only [List.reverse_cons, List.append_assoc, List.cons_append, List.nil_append] at hF ⊢
      refine ⟨.alt _ a b hs, Forms.put (q := [a, b]) hF ⟨hF.2 a (by simp), hF.2 b (by simp)⟩ ?_⟩
      rw [hs]
      simp [ops]
    | [a], hle => simp at hle
    | [], hle => simp at hle
  · have hs := hko s.k rfl (by omega)
    have h1 : kOps s.k = 1 := by rcases h with h | h | h <;> rw [h] <;> rfl
    rw [h1] at hle
    match t, hle with
    | a :: r, _ =>
      unfold pushE
      rw [if_neg (by omega), if_neg (by omega), if_neg (by omega), if_neg (by omega)]
      simp only [List.reverse_cons] at hF ⊢
      refine ⟨.un _ a hs h, Forms.put (q := [a]) hF ⟨h, hF.2 a (by simp)⟩ ?_⟩
      simp [ops, ← hs]
    | [], hle => simp at hle
theorem forms_nil (L : List Stp) : Forms (L.take 0) (trees L 0) := ⟨rfl, by simp [trees, treeGo]⟩
theorem forms_at {L : List Stp} (hG : Goes L 0) (hw : ∀ s ∈ L, s.wide) : ∀ k, k ≤ L.length → Forms (L.take k) (trees L k)
  | 0, _ => forms_nil L
  | k + 1, h => (next_of (by omega) hG hw (forms_at hG hw k (by omega))).2
/-- A LIST THAT IS AN EXPRESSION: the steps of its tree, and of no other trees -/
theorem tree_of {L : List Stp} (hE : Expr L) (hw : ∀ s ∈ L, s.wide) : trees L L.length = [treeE L] ∧ (treeE L).ok ∧ ops (treeE L) = L := by
  have h := forms_at hE.1 hw L.length (Nat.le_refl _)
  have hn := flat_net _ h.2
  rw [h.1, List.take_length, hE.2] at hn
  unfold trees treeE at *
  rw [List.take_length] at *
  generalize treeGo L [] = t at *
  rw [List.length_reverse] at hn
  match t, hn with
  | [e], _ =>
    refine ⟨rfl, h.2 e (by simp), ?_⟩
    simpa using h.1
  | [], hn => simp at hn
  | a :: b :: r, hn => simp at hn; omega
end Go.Proofs.Ytgaadndhecokfaa

/- What the tree of an expression matches, and what is told of all that it matches. Of no program. -/
namespace Go.Proofs.Ytgaadndhecokfaa

/-- is the empty word matched? -/
def nul : Ex → Bool
  | .set _ => false
  | .emp => true
  | .cat a b => nul a && nul b
  | .alt a b => nul a || nul b
  | .un k a => if k = 6 then nul a else true
/-! ### how short, how long -/
def rep (a : Int) : Int := if 0 < a then -2 else a
/-! ### the bytes -/
def f2 (f g : Nat → Bool) (n : Nat) : Bool := f n || g n
end Go.Proofs.Ytgaadndhecokfaa

/- The reference's Of, Check and Same over lists of steps. -/
namespace Go.Proofs.Ytgaadndhecokfaa
open Go.RowKit Go.Lib Go.Joins

set_option maxRecDepth 100000 in
theorem rof_calls (k : Int) (w : World) : Calls Try.prog 72 #[.int .i64 k] w fun e w' => e = .returned (.int .i64 (kOps k)) ∧ w = w' := by
  by_cases h : k = 1 ∨ k = 2 ∨ k = 3 ∨ k = 4 ∨ k = 5 ∨ k = 6 ∨ k = 7
  · rcases h with rfl | rfl | rfl | rfl | rfl | rfl | rfl
    all_goals
      go_enter Try.func72, Try.ntmps72
      go_wp2
      go_ret
      exact ⟨rfl, rfl⟩
  · have q1 : (k == 1) = false := by simp; omega
    have q2 : (k == 2) = false := by simp; omega
    have q3 : (k == 3) = false := by simp; omega
    have q4 : (k == 4) = false := by simp; omega
    have q5 : (k == 5) = false := by simp; omega
    have q6 : (k == 6) = false := by simp; omega
    have q7 : (k == 7) = false := by simp; omega
    have HR := hidden (show kOps k = -1 by
      unfold kOps
      rw [if_neg (by omega), if_neg (by omega), if_neg (by omega)])
    clear h
    go_enter Try.func72, Try.ntmps72
    go_wp2
    go_ret
    exact ⟨ret_i HR.out.symm, rfl⟩
theorem take_moreX (a : List Stp) (k : Nat) (h : k < a.length) : a.take (k + 1) = a.take k ++ [a.getD k default] := by
  rw [List.getD_eq_getElem?_getD, List.getElem?_eq_getElem h]
  exact (List.take_append_getElem h).symm
set_option maxHeartbeats 4000000 in
set_option maxRecDepth 100000 in
theorem rcheck_rx {C : Nat → Prop} (a : Option Addr) (n cap : Nat) (L : List Stp) (w : World) (_ : n ≤ cap) (_ : cap ≤ maxLen) (hS : Rxs C w a n L) :
    Calls Try.prog 56 #[.slice a n cap] w fun e w' => e = .returned (.int .i64 (measV L).2) ∧ w = w' := by
  by_cases hn : 512 < n
  · have e : measV L = (0, 4) := by unfold measV; rw [if_pos (by rw [hS.1]; exact hn)]
    have HE := hidden e
    clear e hS
    go_enter Try.func56, Try.ntmps56
    go_wp2
    go_ret
    exact ⟨by rw [HE.out]; rfl, rfl⟩
  · have hM : measV L = measGo (L.drop 0) 0 0 := by
      unfold measV
      rw [if_neg (by rw [hS.1]; exact hn), List.drop_zero]
    obtain ⟨r, hr⟩ : ∃ r, r = measV L := ⟨_, rfl⟩
    rw [← hr] at hM ⊢
    have HM := hidden hM
    have HS := hidden hS
    clear hM hS hr
    go_enter Try.func56, Try.ntmps56
    go_wp2
    go_loop [3, 4] (fun p i => ∃ (k : Nat) (P H : Int), k ≤ n ∧ i = .int .i64 k ∧ p = .int .i64 P ∧ 0 ≤ P ∧ P ≤ k ∧ r = measGo (L.drop k) P H) (fun _ i => n - (RowKit.intOf i).toNat)
    case atStart => exact ⟨0, 0, 0, by omega, rfl, rfl, by omega, by omega, HM.out⟩
    case round =>
      obtain ⟨k, P, H, hk, rfl, rfl, hP0, hPk, he⟩ := hrel
      have HE := hidden he
      clear he
      by_cases hlt : k < n
      · obtain ⟨b, off, rfl, hCb, hc⟩ := HS.out.2 (by omega)
        obtain ⟨c0, c1, c2, c3, c4⟩ := hc k hlt
        have H1 := hidden (meas_step HE.out (by rw [HS.out.1]; exact hlt))
        obtain ⟨x, hx⟩ : ∃ x, x = L.getD k default := ⟨_, rfl⟩
        rw [← hx] at c0 c1 c2 c3 c4 H1
        have hO := kOps_range x.k
        have HK := hidden (rof_calls x.k)
        clear hc hCb hx
        obtain ⟨K, x1, x2, x3, x4⟩ := x
        simp only at c0 c1 c2 c3 c4 hO HK
        have hg : ((⟨K, x1, x2, x3, x4⟩ : Stp).good ↔ 0 ≤ kOps K ∧ (K = 1 ∨ (x1 = 0 ∧ x2 = 0 ∧ x3 = 0 ∧ x4 = 0))) := Iff.rfl
        have HG := hidden hg
        have hq := fun w => eq_four w x1 x2 x3 x4 0 0 0 0
        simp only [Bool.and_true] at hq
        clear hg
        have H2 : Hid ((⟨K, x1, x2, x3, x4⟩ : Stp).k = K) := hidden rfl
        rw [H2.out] at H1
        clear H2
        generalize kOps K = o at *
        have q0k : decide ((k : Int) < n) = true := decide_eq_true (by omega)
        by_cases q0 : o < 0
        · have hres := hidden (H1.out.1 (fun h => by have := (HG.out.1 h).1; omega))
          have hd0 : decide (o < 0) = true := decide_eq_true q0
          clear H1
          go_wp2_with fail
          refine (HK.out _).mono ?_
          rintro e w1 ⟨rfl, rfl⟩
          go_wp2
          go_ret
          exact ⟨by rw [hres.out]; rfl, rfl⟩
        · have hd0 : decide (o < 0) = false := decide_eq_false q0
          have hcase : (K = 1) ∨ (K ≠ 1 ∧ x1 = 0 ∧ x2 = 0 ∧ x3 = 0 ∧ x4 = 0) ∨ (K ≠ 1 ∧ ¬ (x1 = 0 ∧ x2 = 0 ∧ x3 = 0 ∧ x4 = 0)) := by
            by_cases h1 : K = 1
            · exact .inl h1
            · by_cases h2 : x1 = 0 ∧ x2 = 0 ∧ x3 = 0 ∧ x4 = 0
              · exact .inr (.inl ⟨h1, h2⟩)
              · exact .inr (.inr ⟨h1, h2⟩)
          rcases hcase with h1 | ⟨h1, h2, h3, h4, h5⟩ | ⟨h1, h2⟩
          case' inl =>
            have hgood := HG.out.2 ⟨by omega, .inl h1⟩
            have q1 : (K == 1) = true := by simp [h1]
            have q2 : (K != 1) = false := by simp [h1]
            clear hq
          case' inr.inl =>
            have hgood := HG.out.2 ⟨by omega, .inr ⟨h2, h3, h4, h5⟩⟩
            have q1 : (K == 1) = false := by simp [h1]
            have q2 : (K != 1) = true := by simp [h1]
            have q3 : (x1 == 0 && (x2 == 0 && (x3 == 0 && x4 == 0))) = true := by simp [h2, h3, h4, h5]
            rw [q3] at hq
            clear q3 h2 h3 h4 h5
          case inr.inr =>
            have hres := hidden (H1.out.1 (fun h => (HG.out.1 h).2.elim h1 h2))
            have q1 : (K == 1) = false := by simp [h1]
            have q2 : (K != 1) = true := by simp [h1]
            have q3 : (x1 == 0 && (x2 == 0 && (x3 == 0 && x4 == 0))) = false := by
              rw [Bool.eq_false_iff]
              intro h
              simp at h
              exact h2 ⟨h.1, h.2.1, h.2.2.1, h.2.2.2⟩
            rw [q3] at hq
            clear q3 h2 H1
            go_wp2_with fail
            refine (HK.out _).mono ?_
            rintro e w1 ⟨rfl, rfl⟩
            go_wp2
            go_ret
            exact ⟨by rw [hres.out]; rfl, rfl⟩
          all_goals
            have H2 := hidden (H1.out.2.1 hgood)
            have H3 := hidden (H1.out.2.2 hgood)
            clear H1 HG hgood h1
            by_cases q5 : P < o
            · have hres := hidden (H2.out q5)
              have hd5 : decide (P < o) = true := decide_eq_true q5
              clear H2 H3
              go_wp2_with fail
              refine (HK.out _).mono ?_
              rintro e w1 ⟨rfl, rfl⟩
              go_wp2
              go_ret
              exact ⟨by rw [hres.out]; rfl, rfl⟩
            · have hres := hidden (H3.out (by omega))
              have hd5 : decide (P < o) = false := decide_eq_false q5
              clear H2 H3
              go_wp2_with fail
              refine (HK.out _).mono ?_
              rintro e w1 ⟨rfl, rfl⟩
              go_wp2
              go_round
              case rel => exact ⟨k + 1, P + (1 - o), max H (P + (1 - o)), by omega, by go_num, by go_num, by omega, by omega, hres.out⟩
              case measure => simp [RowKit.intOf]; omega
      · have hres := hidden (meas_end HE.out (by rw [HS.out.1]; omega))
        have q0k : decide ((k : Int) < n) = false := decide_eq_false (by omega)
        by_cases q : P = 1
        · subst q
          rw [if_pos rfl] at hres
          go_wp2
          go_ret
          exact ⟨by rw [hres.out]; rfl, rfl⟩
        · rw [if_neg q] at hres
          have q' : (P == 1) = false := by simp [q]
          go_wp2
          go_ret
          exact ⟨by rw [hres.out]; rfl, rfl⟩
theorem rcheck_slX {C : Nat → Prop} {v : Value} {L : List Stp} {w : World} (h : SlX C w v L) :
    Calls Try.prog 56 #[v] w fun e w' => e = .returned (.int .i64 (measV L).2) ∧ w = w' := by
  obtain ⟨a, cap, rfl, h1, h2, _, hS⟩ := h
  exact rcheck_rx _ _ _ _ _ h1 h2 hS
end Go.Proofs.Ytgaadndhecokfaa
