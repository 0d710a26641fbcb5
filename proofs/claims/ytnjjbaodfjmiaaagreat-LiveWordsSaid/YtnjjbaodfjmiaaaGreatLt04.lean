/- TxtTree, TxtForm, TxtRefK, RxMany, put together. -/
import Derived.Test.YtnjjbaodfjmiaaaGreatLt02
import Derived.Test.YtnjjbaodfjmiaaaGreatLt03
/- Expressions as trees, printed, and the reader that keeps operators waiting: what is printed is read as it. Of no program. -/
namespace Go.Proofs.YtnjjbaodfjmiaaaGreat

def sStp (f : Nat → Bool) : Stp := ⟨1, word f 0, word f 1, word f 2, word f 3⟩
theorem sStp_congr {f g : Nat → Bool} (h : ∀ n, n < 256 → f n = g n) : sStp f = sStp g := by
  unfold sStp
  rw [word_ext h 0 (by decide), word_ext h 1 (by decide), word_ext h 2 (by decide), word_ext h 3 (by decide)]
inductive Ex where
  | set (f : Nat → Bool)
  | emp
  | cat (a b : Ex)
  | alt (a b : Ex)
  | un (k : Int) (a : Ex)
def Ex.kind : Ex → Int
  | .set _ => 1
  | .emp => 2
  | .cat _ _ => 3
  | .alt _ _ => 4
  | .un k _ => k
def Ex.ok : Ex → Prop
  | .set _ => True
  | .emp => True
  | .cat a b => a.ok ∧ b.ok
  | .alt a b => a.ok ∧ b.ok
  | .un k a => (k = 5 ∨ k = 6 ∨ k = 7) ∧ a.ok
def ops : Ex → List Stp
  | .set f => [sStp f]
  | .emp => [kStp 2]
  | .cat a b => ops a ++ ops b ++ [kStp 3]
  | .alt a b => ops a ++ ops b ++ [kStp 4]
  | .un k a => ops a ++ [kStp k]
/-! ### the reader -/
/-! ### what is printed is read -/
end Go.Proofs.YtnjjbaodfjmiaaaGreat

/- Valid lists of steps are those of one tree; how long its text is. Of no program. -/
namespace Go.Proofs.YtnjjbaodfjmiaaaGreat

/-- the words of a step are words -/
def Stp.wide (s : Stp) : Prop := (0 ≤ s.a ∧ s.a ≤ 18446744073709551615) ∧ (0 ≤ s.b ∧ s.b ≤ 18446744073709551615) ∧ (0 ≤ s.c ∧ s.c ≤ 18446744073709551615) ∧ (0 ≤ s.d ∧ s.d ≤ 18446744073709551615)
def bitsE (s : Stp) : Nat → Bool := mem s.a.toNat s.b.toNat s.c.toNat s.d.toNat
theorem bitsE_step {s : Stp} (hk : s.k = 1) (hw : s.wide) : s = sStp (bitsE s) := by
  obtain ⟨h1, h2, h3, h4⟩ := hw
  obtain ⟨m0, m1, m2, m3⟩ := word_mem (a := s.a.toNat) (b := s.b.toNat) (c := s.c.toNat) (d := s.d.toNat) (by omega) (by omega) (by omega) (by omega)
  obtain ⟨k, a, b, c, d⟩ := s
  unfold sStp bitsE
  simp only at hk h1 h2 h3 h4 m0 m1 m2 m3 ⊢
  rw [m0, m1, m2, m3, hk]
  simp only [Stp.mk.injEq, true_and]
  omega
theorem bitsE_words {s : Stp} (hw : s.wide) : (word (bitsE s) 0 : Int) = s.a ∧ (word (bitsE s) 1 : Int) = s.b ∧ (word (bitsE s) 2 : Int) = s.c ∧ (word (bitsE s) 3 : Int) = s.d := by
  obtain ⟨h1, h2, h3, h4⟩ := hw
  obtain ⟨m0, m1, m2, m3⟩ := word_mem (a := s.a.toNat) (b := s.b.toNat) (c := s.c.toNat) (d := s.d.toNat) (by omega) (by omega) (by omega) (by omega)
  unfold bitsE
  rw [m0, m1, m2, m3]
  omega
/-- a step puts trees together: the last one stands first -/
def pushE (s : Stp) (t : List Ex) : List Ex :=
  if s.k = 1 then .set (bitsE s) :: t else if s.k = 2 then .emp :: t else
  if s.k = 3 then (match t with | b :: a :: r => .cat a b :: r | _ => t) else
  if s.k = 4 then (match t with | b :: a :: r => .alt a b :: r | _ => t) else (match t with | a :: r => .un s.k a :: r | _ => t)
def treeGo : List Stp → List Ex → List Ex
  | [], t => t
  | s :: r, t => treeGo r (pushE s t)
theorem treeGo_append : ∀ (a b : List Stp) (t : List Ex), treeGo (a ++ b) t = treeGo b (treeGo a t)
  | [], _, _ => rfl
  | s :: r, b, t => treeGo_append r b (pushE s t)
def trees (L : List Stp) (k : Nat) : List Ex := (treeGo (L.take k) []).reverse
def treeE (L : List Stp) : Ex := (treeGo L []).headD .emp
/-- what a step does to the trees, the last one standing last -/
inductive Next (s : Stp) : List Ex → List Ex → Prop
  | set (r) (h : s.k = 1) (e : s = sStp (bitsE s)) : Next s r (r ++ [.set (bitsE s)])
  | emp (r) (e : s = kStp 2) : Next s r (r ++ [.emp])
  | cat (r a b) (e : s = kStp 3) : Next s (r ++ [a, b]) (r ++ [.cat a b])
  | alt (r a b) (e : s = kStp 4) : Next s (r ++ [a, b]) (r ++ [.alt a b])
  | un (r a) (e : s = kStp s.k) (h : s.k = 5 ∨ s.k = 6 ∨ s.k = 7) : Next s (r ++ [a]) (r ++ [.un s.k a])
theorem ops_expr : ∀ e : Ex, e.ok → Expr (ops e)
  | .set f, _ => by
    refine ⟨⟨⟨by show 0 ≤ kOps 1; decide, .inl rfl⟩, by show kOps 1 ≤ 0; decide, trivial⟩, ?_⟩
    show (1 - kOps 1) + 0 = 1
    decide
  | .emp, _ => by
    refine ⟨⟨⟨by show 0 ≤ kOps 2; decide, .inr ⟨rfl, rfl, rfl, rfl⟩⟩, by show kOps 2 ≤ 0; decide, trivial⟩, ?_⟩
    show (1 - kOps 2) + 0 = 1
    decide
  | .cat a b, ⟨ha, hb⟩ => expr_two (ops_expr a ha) (ops_expr b hb) (.inl rfl)
  | .alt a b, ⟨ha, hb⟩ => expr_two (ops_expr a ha) (ops_expr b hb) (.inr rfl)
  | .un k a, ⟨hk, ha⟩ => expr_one (ops_expr a ha) hk
theorem flat_net : ∀ es : List Ex, (∀ e ∈ es, e.ok) → net (es.flatMap ops) = es.length
  | [], _ => rfl
  | e :: r, h => by
    rw [List.flatMap_cons, net_append, (ops_expr e (h e (by simp))).2, flat_net r fun x hx => h x (by simp [hx])]
    simp only [List.length_cons]
    omega
/-- trees of a list of steps -/
def Forms (L : List Stp) (es : List Ex) : Prop := es.flatMap ops = L ∧ ∀ e ∈ es, e.ok
theorem Forms.put {L : List Stp} {r q : List Ex} {e : Ex} {s : Stp} (h : Forms L (r ++ q)) (he : e.ok) (ho : ops e = q.flatMap ops ++ [s]) : Forms (L ++ [s]) (r ++ [e]) := by
  refine ⟨?_, fun x hx => ?_⟩
  · rw [← h.1]
    simp [ho]
  · simp only [List.mem_append, List.mem_singleton] at hx
    rcases hx with hx | rfl
    · exact h.2 x (by simp [hx])
    · exact he
theorem kind_cases {k : Int} (h : 0 ≤ kOps k) : k = 1 ∨ k = 2 ∨ k = 3 ∨ k = 4 ∨ (k = 5 ∨ k = 6 ∨ k = 7) := by
  unfold kOps at h
  split at h
  · omega
  · split at h
    · omega
    · split at h
      · omega
      · omega
theorem next_of {L : List Stp} {k : Nat} (hk : k < L.length) (hG : Goes L 0) (hw : ∀ s ∈ L, s.wide) (hF : Forms (L.take k) (trees L k)) :
    Next (L.getD k default) (trees L k) (trees L (k + 1)) ∧ Forms (L.take (k + 1)) (trees L (k + 1)) := by
  have hget : L.getD k default = L[k] := by rw [List.getD_eq_getElem?_getD, List.getElem?_eq_getElem hk]; rfl
  have htk : L.take (k + 1) = L.take k ++ [L[k]] := (List.take_append_getElem hk).symm
  have htr : trees L (k + 1) = (pushE L[k] (treeGo (L.take k) [])).reverse := by
    unfold trees
    rw [htk, treeGo_append]
    rfl
  have hsp : L = L.take k ++ (L[k] :: L.drop (k + 1)) := by
    rw [List.getElem_cons_drop, List.take_append_drop]
  have hG2 := hG
  rw [hsp, goes_append] at hG2
  obtain ⟨⟨hg0, hpl⟩, hle, _⟩ := hG2.2
  rw [← hF.1, flat_net _ hF.2] at hle
  have hwd := hw L[k] (List.getElem_mem hk)
  rw [hget, htr, htk]
  unfold trees at hF hle ⊢
  generalize treeGo (L.take k) [] = t at *
  generalize L[k] = s at *
  generalize L.take k = M at *
  rw [List.length_reverse] at hle
  have hko : ∀ j, s.k = j → j ≠ 1 → s = kStp j := fun j hj h1 => by
    rcases hpl with h | ⟨h2, h3, h4, h5⟩
    · omega
    · obtain ⟨k', a', b', c', d'⟩ := s
      simp only at hj h2 h3 h4 h5
      subst hj h2 h3 h4 h5
      rfl
  rcases kind_cases hg0 with h | h | h | h | h
  · have hs := bitsE_step h hwd
    unfold pushE
    rw [if_pos h, List.reverse_cons]
    exact ⟨.set _ h hs, Forms.put (q := []) (by simpa using hF) trivial (by simpa [ops] using hs.symm)⟩
  · have hs := hko 2 h (by decide)
    unfold pushE
    rw [if_neg (by omega), if_pos h, List.reverse_cons]
    exact ⟨.emp _ hs, Forms.put (q := []) (by simpa using hF) trivial (by simpa [ops] using hs.symm)⟩
  · have hs := hko 3 h (by decide)
    rw [h, show kOps 3 = 2 from rfl] at hle
    match t, hle with
    | b :: a :: r, _ =>
      unfold pushE
      rw [if_neg (by omega), if_neg (by omega), if_pos h]
      simp only [List.reverse_cons, List.append_assoc, List.cons_append, List.nil_append] at hF ⊢
      refine ⟨.cat _ a b hs, Forms.put (q := [a, b]) hF ⟨hF.2 a (by simp), hF.2 b (by simp)⟩ ?_⟩
      rw [hs]
      simp [ops]
    | [a], hle => simp at hle
    | [], hle => simp at hle
  · have hs := hko 4 h (by decide)
    rw [h, show kOps 4 = 2 from rfl] at hle
    match t, hle with
    | b :: a :: r, _ =>
      unfold pushE
      rw [if_neg (by omega), if_neg (by omega), if_neg (by omega), if_pos h]
      simp only [List.reverse_cons, List.append_assoc, List.cons_append, List.nil_append] at hF ⊢
      refine ⟨.alt _ a b hs, Forms.put (q := [a, b]) hF ⟨hF.2 a (by simp), hF.2 b (by simp)⟩ ?_⟩
      rw [hs]
      simp [ops]
    | [a], hle => simp at hle
    | [], hle => simp at hle
  · have hs := hko s.k rfl (by omega)
    have h1 : kOps s.k = 1 := by rcases h with h | h | h <;> rw [h] <;> rfl
    rw [h1] at hle
    match t, hle with
    | a :: r, _ =>
      unfold pushE
      rw [if_neg (by omega), if_neg (by omega), if_neg (by omega), if_neg (by omega)]
      simp only [List.reverse_cons] at hF ⊢
      refine ⟨.un _ a hs h, Forms.put (q := [a]) hF ⟨h, hF.2 a (by simp)⟩ ?_⟩
      simp [ops, ← hs]
    | [], hle => simp at hle
theorem forms_nil (L : List Stp) : Forms (L.take 0) (trees L 0) := ⟨rfl, by simp [trees, treeGo]⟩
theorem forms_at {L : List Stp} (hG : Goes L 0) (hw : ∀ s ∈ L, s.wide) : ∀ k, k ≤ L.length → Forms (L.take k) (trees L k)
  | 0, _ => forms_nil L
  | k + 1, h => (next_of (by omega) hG hw (forms_at hG hw k (by omega))).2
/-- A LIST THAT IS AN EXPRESSION: the steps of its tree, and of no other trees -/
theorem tree_of {L : List Stp} (hE : Expr L) (hw : ∀ s ∈ L, s.wide) : trees L L.length = [treeE L] ∧ (treeE L).ok ∧ ops (treeE L) = L := by
  have h := forms_at hE.1 hw L.length (Nat.le_refl _)
  have hn := flat_net _ h.2
  rw [h.1, List.take_length, hE.2] at hn
  unfold trees treeE at *
  rw [List.take_length] at *
  generalize treeGo L [] = t at *
  rw [List.length_reverse] at hn
  match t, hn with
  | [e], _ =>
    refine ⟨rfl, h.2 e (by simp), ?_⟩
    simpa using h.1
  | [], hn => simp at hn
  | a :: b :: r, hn => simp at hn; omega
end Go.Proofs.YtnjjbaodfjmiaaaGreat

/- The reference's Of, Check and Same over lists of steps. -/
namespace Go.Proofs.YtnjjbaodfjmiaaaGreat
open Go.RowKit Go.Lib Go.Joins

set_option maxRecDepth 100000 in
theorem rof_calls (k : Int) (w : World) : Calls Tryz.prog 110 #[.int .i64 k] w fun e w' => e = .returned (.int .i64 (kOps k)) ∧ w = w' := by
  by_cases h : k = 1 ∨ k = 2 ∨ k = 3 ∨ k = 4 ∨ k = 5 ∨ k = 6 ∨ k = 7
  · rcases h with rfl | rfl | rfl | rfl | rfl | rfl | rfl
    all_goals
      go_enter Tryz.func110, Tryz.ntmps110
      go_wp2
      go_ret
      exact ⟨rfl, rfl⟩
  · have q1 : (k == 1) = false := by simp; omega
    have q2 : (k == 2) = false := by simp; omega
    have q3 : (k == 3) = false := by simp; omega
    have q4 : (k == 4) = false := by simp; omega
    have q5 : (k == 5) = false := by simp; omega
    have q6 : (k == 6) = false := by simp; omega
    have q7 : (k == 7) = false := by simp; omega
    have HR := hidden (show kOps k = -1 by
      unfold kOps
      rw [if_neg (by omega), if_neg (by omega), if_neg (by omega)])
    clear h
    go_enter Tryz.func110, Tryz.ntmps110
    go_wp2
    go_ret
    exact ⟨ret_i HR.out.symm, rfl⟩
theorem take_moreX (a : List Stp) (k : Nat) (h : k < a.length) : a.take (k + 1) = a.take k ++ [a.getD k default] := by
  rw [List.getD_eq_getElem?_getD, List.getElem?_eq_getElem h]
  exact (List.take_append_getElem h).symm
set_option maxHeartbeats 4000000 in
set_option maxRecDepth 100000 in
theorem rcheck_rx {C : Nat → Prop} (a : Option Addr) (n cap : Nat) (L : List Stp) (w : World) (_ : n ≤ cap) (_ : cap ≤ maxLen) (hS : Rxs C w a n L) :
    Calls Tryz.prog 93 #[.slice a n cap] w fun e w' => e = .returned (.int .i64 (measV L).2) ∧ w = w' := by
  by_cases hn : 512 < n
  · have e : measV L = (0, 4) := by unfold measV; rw [if_pos (by rw [hS.1]; exact hn)]
    have HE := hidden e
    clear e hS
    go_enter Tryz.func93, Tryz.ntmps93
    go_wp2
    go_ret
    exact ⟨by rw [HE.out]; rfl, rfl⟩
  · have hM : measV L = measGo (L.drop 0) 0 0 := by
      unfold measV
      rw [if_neg (by rw [hS.1]; exact hn), List.drop_zero]
    obtain ⟨r, hr⟩ : ∃ r, r = measV L := ⟨_, rfl⟩
    rw [← hr] at hM ⊢
    have HM := hidden hM
    have HS := hidden hS
    clear hM hS hr
    go_enter Tryz.func93, Tryz.ntmps93
    go_wp2
    go_loop [3, 4] (fun p i => ∃ (k : Nat) (P H : Int), k ≤ n ∧ i = .int .i64 k ∧ p = .int .i64 P ∧ 0 ≤ P ∧ P ≤ k ∧ r = measGo (L.drop k) P H) (fun _ i => n - (RowKit.intOf i).toNat)
    case atStart => exact ⟨0, 0, 0, by omega, rfl, rfl, by omega, by omega, HM.out⟩
    case round =>
      obtain ⟨k, P, H, hk, rfl, rfl, hP0, hPk, he⟩ := hrel
      have HE := hidden he
      clear he
      by_cases hlt : k < n
      · obtain ⟨b, off, rfl, hCb, hc⟩ := HS.out.2 (by omega)
        obtain ⟨c0, c1, c2, c3, c4⟩ := hc k hlt
        have H1 := hidden (meas_step HE.out (by rw [HS.out.1]; exact hlt))
        obtain ⟨x, hx⟩ : ∃ x, x = L.getD k default := ⟨_, rfl⟩
        rw [← hx] at c0 c1 c2 c3 c4 H1
        have hO := kOps_range x.k
        have HK := hidden (rof_calls x.k)
        clear hc hCb hx
        obtain ⟨K, x1, x2, x3, x4⟩ := x
        simp only at c0 c1 c2 c3 c4 hO HK
        have hg : ((⟨K, x1, x2, x3, x4⟩ : Stp).good ↔ 0 ≤ kOps K ∧ (K = 1 ∨ (x1 = 0 ∧ x2 = 0 ∧ x3 = 0 ∧ x4 = 0))) := Iff.rfl
        have HG := hidden hg
        have hq := fun w => eq_four w x1 x2 x3 x4 0 0 0 0
        simp only [Bool.and_true] at hq
        clear hg
        have H2 : Hid ((⟨K, x1, x2, x3, x4⟩ : Stp).k = K) := hidden rfl
        rw [H2.out] at H1
        clear H2
        generalize kOps K = o at *
        have q0k : decide ((k : Int) < n) = true := decide_eq_true (by omega)
        by_cases q0 : o < 0
        · have hres := hidden (H1.out.1 (fun h => by have := (HG.out.1 h).1; omega))
          have hd0 : decide (o < 0) = true := decide_eq_true q0
          clear H1
          go_wp2_with fail
          refine (HK.out _).mono ?_
          rintro e w1 ⟨rfl, rfl⟩
          go_wp2
          go_ret
          exact ⟨by rw [hres.out]; rfl, rfl⟩
        · have hd0 : decide (o < 0) = false := decide_eq_false q0
          have hcase : (K = 1) ∨ (K ≠ 1 ∧ x1 = 0 ∧ x2 = 0 ∧ x3 = 0 ∧ x4 = 0) ∨ (K ≠ 1 ∧ ¬ (x1 = 0 ∧ x2 = 0 ∧ x3 = 0 ∧ x4 = 0)) := by
            by_cases h1 : K = 1
            · exact .inl h1
            · by_cases h2 : x1 = 0 ∧ x2 = 0 ∧ x3 = 0 ∧ x4 = 0
              · exact .inr (.inl ⟨h1, h2⟩)
              · exact .inr (.inr ⟨h1, h2⟩)
          rcases hcase with h1 | ⟨h1, h2, h3, h4, h5⟩ | ⟨h1, h2⟩
          case' inl =>
            have hgood := HG.out.2 ⟨by omega, .inl h1⟩
            have q1 : (K == 1) = true := by simp [h1]
            have q2 : (K != 1) = false := by simp [h1]
            clear hq
          case' inr.inl =>
            have hgood := HG.out.2 ⟨by omega, .inr ⟨h2, h3, h4, h5⟩⟩
            have q1 : (K == 1) = false := by simp [h1]
            have q2 : (K != 1) = true := by simp [h1]
            have q3 : (x1 == 0 && (x2 == 0 && (x3 == 0 && x4 == 0))) = true := by simp [h2, h3, h4, h5]
            rw [q3] at hq
            clear q3 h2 h3 h4 h5
          case inr.inr =>
            have hres := hidden (H1.out.1 (fun h => (HG.out.1 h).2.elim h1 h2))
            have q1 : (K == 1) = false := by simp [h1]
            have q2 : (K != 1) = true := by simp [h1]
            have q3 : (x1 == 0 && (x2 == 0 && (x3 == 0 && x4 == 0))) = false := by
              rw [Bool.eq_false_iff]
              intro h
              simp at h
              exact h2 ⟨h.1, h.2.1, h.2.2.1, h.2.2.2⟩
            rw [q3] at hq
            clear q3 h2 H1
            go_wp2_with fail
            refine (HK.out _).mono ?_
            rintro e w1 ⟨rfl, rfl⟩
            go_wp2
            go_ret
            exact ⟨by rw [hres.out]; rfl, rfl⟩
          all_goals
            have H2 := hidden (H1.out.2.1 hgood)
            have H3 := hidden (H1.out.2.2 hgood)
            clear H1 HG hgood h1
            by_cases q5 : P < o
            · have hres := hidden (H2.out q5)
              have hd5 : decide (P < o) = true := decide_eq_true q5
              clear H2 H3
              go_wp2_with fail
              refine (HK.out _).mono ?_
              rintro e w1 ⟨rfl, rfl⟩
              go_wp2
              go_ret
              exact ⟨by rw [hres.out]; rfl, rfl⟩
            · have hres := hidden (H3.out (by omega))
              have hd5 : decide (P < o) = false := decide_eq_false q5
              clear H2 H3
              go_wp2_with fail
              refine (HK.out _).mono ?_
              rintro e w1 ⟨rfl, rfl⟩
              go_wp2
              go_round
              case rel => exact ⟨k + 1, P + (1 - o), max H (P + (1 - o)), by omega, by go_num, by go_num, by omega, by omega, hres.out⟩
              case measure => simp [RowKit.intOf]; omega
      · have hres := hidden (meas_end HE.out (by rw [HS.out.1]; omega))
        have q0k : decide ((k : Int) < n) = false := decide_eq_false (by omega)
        by_cases q : P = 1
        · subst q
          rw [if_pos rfl] at hres
          go_wp2
          go_ret
          exact ⟨by rw [hres.out]; rfl, rfl⟩
        · rw [if_neg q] at hres
          have q' : (P == 1) = false := by simp [q]
          go_wp2
          go_ret
          exact ⟨by rw [hres.out]; rfl, rfl⟩
theorem rcheck_slX {C : Nat → Prop} {v : Value} {L : List Stp} {w : World} (h : SlX C w v L) :
    Calls Tryz.prog 93 #[v] w fun e w' => e = .returned (.int .i64 (measV L).2) ∧ w = w' := by
  obtain ⟨a, cap, rfl, h1, h2, _, hS⟩ := h
  exact rcheck_rx _ _ _ _ _ h1 h2 hS
end Go.Proofs.YtnjjbaodfjmiaaaGreat

/- Contracts of the reference's many, One, Cat and Alt; of the program's Cat and Alt. -/
namespace Go.Proofs.YtnjjbaodfjmiaaaGreat
open Go.RowKit Go.Lib Go.Joins

theorem jn_zero (k : Int) (LL : List (List Stp)) (h : 0 < LL.length) : jn k (LL.take 1) = jn k (LL.take 0) ++ LL.getD 0 [] := by
  cases LL with
  | nil => simp at h
  | cons x R => simp [jn, jt]
theorem jn_take (k : Int) (LL : List (List Stp)) (j : Nat) (h : j < LL.length) (hj : 0 < j) : jn k (LL.take (j + 1)) = jn k (LL.take j) ++ LL.getD j [] ++ [kStp k] := by
  cases LL with
  | nil => simp at h
  | cons x R =>
    obtain ⟨i, rfl⟩ : ∃ i, j = i + 1 := ⟨j - 1, by omega⟩
    rw [List.take_succ_cons, List.take_succ_cons, List.getD_cons_succ]
    simp only [jn]
    rw [jt_take k R i (by simpa using h), List.append_assoc, List.append_assoc, List.append_assoc]
theorem jn_le (k : Int) (LL : List (List Stp)) (j : Nat) : (jn k (LL.take j)).length ≤ (jn k LL).length := by
  cases LL with
  | nil => simp
  | cons x R =>
    cases j with
    | zero => simp [jn]
    | succ i =>
      have := jt_le k R i
      simp [jn]
      omega
/-- a row of the call's own, and what was there -/
def Mk (w : World) (base : Nat) (L : List Stp) (v : Value) (wr : World) : Prop := RowX wr base v L ∧ Below w.heap.size w wr ∧ base ≤ wr.heap.size
theorem Mk.grown {w wr w1 : World} {base : Nat} {L M : List Stp} {v v' : Value} (h : Mk w base L v wr) (hB : w.heap.size ≤ base) (h1 : RowX w1 base v' M) (hg : wr.grownBy w1 v.ownBlock) : Mk w base M v' w1 :=
  ⟨h1, h.2.1.grown hg (Nat.le_trans hB h.2.2) fun j e => Nat.le_trans hB ((h.1.lt j e).1), Nat.le_trans h.2.2 hg.size⟩
theorem Mk.alloc {w wr : World} {base : Nat} {L : List Stp} {v : Value} (h : Mk w base L v wr) (hB : w.heap.size ≤ base) (o : Obj) : Mk w base L v (wr.alloc o) :=
  ⟨World.ownsRow.alloc h.1 o, h.2.1.alloc (Nat.le_trans hB h.2.2) o, by have := h.2.2; simp; omega⟩
theorem mk_nil (w : World) (cur : Array Value) (h : cur = #[]) (b : Nat) (hb : b = w.heap.size) : Mk w w.heap.size [] (.slice (some ⟨b, 0, none⟩) 0 0) (w.alloc (.cells cur 129)) := by
  subst h hb
  exact ⟨World.ownsRow_lit (e := 129) (size := 5) w #[] 0 (Nat.le_refl _) (by decide) rfl, (Below.refl _ _).alloc (Nat.le_refl _) _, by simp⟩
set_option maxHeartbeats 4000000 in
set_option maxRecDepth 100000 in
theorem many_calls {C : Nat → Prop} (w : World) (k : Int) (v : Value) (LL : List (List Stp)) (h : SlXs C w v LL) (hC : ∀ b, C b → b < w.heap.size) (hsz : (jn k LL).length ≤ 1000000) :
    Calls Tryz.prog 107 #[v, .int .i64 k] w (RetX w (jn k LL)) := by
  obtain ⟨a, cap, rfl, h1, h2, hS⟩ := h
  obtain ⟨m, hm⟩ : ∃ m, m = LL.length := ⟨_, rfl⟩
  rw [← hm] at h1 hS ⊢
  have HS := hidden hS
  have HM := hidden hm
  have HK := hidden (fun (W : World) (hb : Below w.heap.size w W) c hc => (⟨trivial, hb.block c (hC c hc)⟩ : True ∧ W.heap[c]? = w.heap[c]?))
  unfold maxLen at h2
  clear hS hm
  go_enter Tryz.func107, Tryz.ntmps107
  go_wp2
  go_loopw [5, 6] (fun o i wr => ∃ j : Nat, j ≤ m ∧ i = .int .i64 j ∧ Mk w w.heap.size (jn k (LL.take j)) o wr) (fun _ i _ => m - (Go.RowKit.intOf i).toNat)
  case atStart => exact ⟨0, by omega, rfl, mk_nil w _ rfl _ rfl⟩
  case round =>
    obtain ⟨j, hj, rfl, hmk⟩ := hrel
    have HJ := hidden hmk
    clear hmk
    by_cases hlt : j < m
    · obtain ⟨b, off, rfl, hCb, hc⟩ := HS.out.2 (by omega)
      obtain ⟨y, hy, hyx⟩ := hc j hlt
      have hy' : wr.cell? ⟨b, off + j, none⟩ = some y := (HJ.out.2.1.cell (p := ⟨b, off + j, none⟩) (hC b hCb)).trans hy
      have HY := hidden (SlX.below (w' := wr) (C' := fun _ => True) hyx (HK.out wr HJ.out.2.1))
      have hle := jn_le k LL (j + 1)
      have hmL : j < LL.length := by rw [← HM.out]; exact hlt
      clear hc hyx hy
      by_cases hj0 : j = 0
      · subst hj0
        have HN := hidden (jn_zero k LL hmL)
        rw [HN.out, List.length_append] at hle
        rw [Nat.add_zero] at hy'
        go_wp2_with (at_builtin; refine append_rx rfl rfl _ _ rfl w.heap.size _ _ _ _ rfl HJ.out.1 rfl HY.out (by omega) HJ.out.2.2 ?_; intro a' l' c' w1 hr1 hg1)
        have HJ1 := hidden (HJ.out.grown (Nat.le_refl _) hr1 hg1)
        clear hr1 hg1
        go_wp2
        go_roundw
        case rel => exact ⟨1, by omega, rfl, by rw [HN.out]; exact HJ1.out⟩
        case measure => simp [Go.RowKit.intOf]; omega
      · have HN := hidden (jn_take k LL j hmL (by omega))
        rw [HN.out, List.length_append, List.length_append] at hle
        have hl1 : ([kStp k] : List Stp).length = 1 := rfl
        have hjp : 0 < j := by omega
        have hjd : decide ((0 : Int) < j) = true := decide_eq_true (by omega)
        go_wp2_with (at_builtin; first
          | (refine append_rx rfl rfl _ _ rfl w.heap.size _ _ _ _ rfl HJ.out.1 rfl HY.out (by omega) HJ.out.2.2 ?_; intro a' l' c' w1 hr1 hg1; have HJ1 := hidden (HJ.out.grown (Nat.le_refl _) hr1 hg1); clear hr1 hg1)
          | (refine append_rx rfl rfl _ _ rfl w.heap.size _ _ _ _ rfl (HJ1.out.alloc (Nat.le_refl _) _).1 rfl (one_slX w1 (kStp k) _ rfl) (by rw [List.length_append]; omega) (HJ1.out.alloc (Nat.le_refl _) _).2.2 ?_; intro a2 l2 c2 w2 hr2 hg2; have HJ2 := hidden ((HJ1.out.alloc (Nat.le_refl _) _).grown (Nat.le_refl _) hr2 hg2); clear hr2 hg2))
        go_roundw
        case rel => exact ⟨j + 1, by omega, by go_num, by rw [HN.out]; exact HJ2.out⟩
        case measure => simp [Go.RowKit.intOf]; omega
    · obtain rfl : j = m := by omega
      obtain ⟨hr, hb, _⟩ := HJ.out
      rw [List.take_of_length_le (by rw [HM.out]; exact Nat.le_refl _)] at hr
      have HR := hidden hr
      clear hr
      go_wp2
      go_ret
      exact ⟨_, rfl, HR.out, hb⟩
set_option maxHeartbeats 4000000 in
set_option maxRecDepth 100000 in
theorem onex_calls {C : Nat → Prop} (w : World) (k : Int) (v : Value) (L : List Stp) (h : SlX C w v L) (hC : ∀ b, C b → b < w.heap.size) (hsz : L.length ≤ 900000) :
    Calls Tryz.prog 104 #[v, .int .i64 k] w (RetX w (L ++ [kStp k])) := by
  obtain ⟨a, cap, rfl, h1, h2, _, hS⟩ := h
  obtain ⟨m, hm⟩ : ∃ m, m = L.length := ⟨_, rfl⟩
  rw [← hm] at h1 hS hsz ⊢
  have HS := hidden hS
  have HM := hidden hm
  unfold maxLen at h2
  clear hS hm
  go_enter Tryz.func104, Tryz.ntmps104
  go_wp2
  go_loopw [5, 6] (fun o i wr => ∃ j : Nat, j ≤ m ∧ i = .int .i64 j ∧ Mk w w.heap.size (L.take j) o wr) (fun _ i _ => m - (Go.RowKit.intOf i).toNat)
  case atStart => exact ⟨0, by omega, rfl, mk_nil w _ rfl _ rfl⟩
  case round =>
    obtain ⟨j, hj, rfl, hmk⟩ := hrel
    have HJ := hidden hmk
    clear hmk
    have hlen : (L.take j).length = j := by rw [List.length_take, ← HM.out]; omega
    have hl1 : ∀ s : Stp, ([s] : List Stp).length = 1 := fun _ => rfl
    by_cases hlt : j < m
    · obtain ⟨b, off, rfl, hCb, hc⟩ := HS.out.2 (by omega)
      obtain ⟨c0, c1, c2, c3, c4⟩ := (hc j hlt).kept (w' := wr) (HJ.out.2.1.block b (hC b hCb))
      have HN := hidden (take_moreX L j (by rw [← HM.out]; exact hlt))
      clear hc
      generalize L.getD j default = x at *
      go_wp2_with (at_builtin; refine append_rx rfl rfl _ _ rfl w.heap.size _ _ _ _ rfl (HJ.out.alloc (Nat.le_refl _) _).1 rfl (one_slX wr x _ rfl) (by rw [hlen, hl1]; omega) (HJ.out.alloc (Nat.le_refl _) _).2.2 ?_; intro a2 l2 c2' w2 hr2 hg2; have HJ2 := hidden ((HJ.out.alloc (Nat.le_refl _) _).grown (Nat.le_refl _) hr2 hg2); clear hr2 hg2)
      go_roundw
      case rel => exact ⟨j + 1, by omega, by go_num, by rw [HN.out]; exact HJ2.out⟩
      case measure => simp [Go.RowKit.intOf]; omega
    · obtain rfl : j = m := by omega
      rw [List.take_of_length_le (by rw [HM.out]; exact Nat.le_refl _)] at HJ
      go_wp2_with (at_builtin; refine append_rx rfl rfl _ _ rfl w.heap.size _ _ _ _ rfl (HJ.out.alloc (Nat.le_refl _) _).1 rfl (one_slX wr (kStp k) _ rfl) (by rw [hl1, ← HM.out]; omega) (HJ.out.alloc (Nat.le_refl _) _).2.2 ?_; intro a2 l2 c2' w2 hr2 hg2; have HJ2 := hidden ((HJ.out.alloc (Nat.le_refl _) _).grown (Nat.le_refl _) hr2 hg2); clear hr2 hg2)
      go_ret
      exact ⟨_, rfl, HJ2.out.1, HJ2.out.2.1⟩

/-! ### Cat and Alt -/
def catV (LL : List (List Stp)) : List Stp := if LL.length = 0 then [kStp 2] else jn 3 LL
def altV (LL : List (List Stp)) : List Stp := if LL.length = 0 then [kStp 1] else jn 4 LL
theorem slxs_form {C : Nat → Prop} {w : World} {v : Value} {LL : List (List Stp)} (h : SlXs C w v LL) : ∃ a cap, v = .slice a LL.length cap := by
  obtain ⟨a, cap, rfl, _⟩ := h
  exact ⟨a, cap, rfl⟩
set_option maxRecDepth 100000 in
theorem rcat_calls {C : Nat → Prop} (w : World) (v : Value) (LL : List (List Stp)) (h : SlXs C w v LL) (hC : ∀ b, C b → b < w.heap.size) (hsz : (catV LL).length ≤ 1000000) :
    Calls Tryz.prog 105 #[v] w (RetX w (catV LL)) := by
  unfold catV at *
  by_cases h0 : LL.length = 0
  · have H := hidden (rempty_rx w)
    obtain ⟨a, cap, rfl⟩ := slxs_form h
    clear h hC hsz
    rw [if_pos h0]
    go_enter Tryz.func105, Tryz.ntmps105
    go_wp2_with fail
    refine H.out.mono ?_
    rintro e w' ⟨u, rfl, hr, hb⟩
    go_wp2
    go_ret
    exact ⟨_, rfl, hr, hb⟩
  · rw [if_neg h0] at hsz ⊢
    have H := hidden (many_calls w 3 v LL h hC hsz)
    obtain ⟨a, cap, rfl⟩ := slxs_form h
    have h0' : ((LL.length : Int) == 0) = false := by simp; intro e; exact h0 (by rw [e]; rfl)
    clear h hC hsz
    go_enter Tryz.func105, Tryz.ntmps105
    go_wp2_with fail
    refine H.out.mono ?_
    rintro e w' ⟨u, rfl, hr, hb⟩
    go_wp2
    go_ret
    exact ⟨_, rfl, hr, hb⟩
set_option maxRecDepth 100000 in
theorem ralt_calls {C : Nat → Prop} (w : World) (v : Value) (LL : List (List Stp)) (h : SlXs C w v LL) (hC : ∀ b, C b → b < w.heap.size) (hsz : (altV LL).length ≤ 1000000) :
    Calls Tryz.prog 89 #[v] w (RetX w (altV LL)) := by
  unfold altV at *
  by_cases h0 : LL.length = 0
  · have H := hidden (rset_rx 0 0 0 0 w)
    obtain ⟨a, cap, rfl⟩ := slxs_form h
    clear h hC hsz
    rw [if_pos h0]
    go_enter Tryz.func89, Tryz.ntmps89
    go_wp2_with fail
    refine H.out.mono ?_
    rintro e w' ⟨u, rfl, hr, hb⟩
    go_wp2
    go_ret
    exact ⟨_, rfl, hr, hb⟩
  · rw [if_neg h0] at hsz ⊢
    have H := hidden (many_calls w 4 v LL h hC hsz)
    obtain ⟨a, cap, rfl⟩ := slxs_form h
    have h0' : ((LL.length : Int) == 0) = false := by simp; intro e; exact h0 (by rw [e]; rfl)
    clear h hC hsz
    go_enter Tryz.func89, Tryz.ntmps89
    go_wp2_with fail
    refine H.out.mono ?_
    rintro e w' ⟨u, rfl, hr, hb⟩
    go_wp2
    go_ret
    exact ⟨_, rfl, hr, hb⟩
end Go.Proofs.YtnjjbaodfjmiaaaGreat
