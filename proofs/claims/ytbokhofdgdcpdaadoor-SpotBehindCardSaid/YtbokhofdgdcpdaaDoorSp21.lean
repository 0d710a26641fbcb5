/- SpOpen, SpFact, SpWMath, put together. -/
import Derived.Test.YtbokhofdgdcpdaaDoorSp20
import Derived.Test.YtbokhofdgdcpdaaDoorTie
import Derived.Test.YtbokhofdgdcpdaaDoorCards
import Derived.Laws.IdiomArrays
import Derived.Deep.Slices
import Derived.LaidMore
import Derived.Lay
import Derived.Lib.LaidTab
import Derived.SevenTiedAt
import Derived.Stop.Joined
import Derived.Test.YtbokhofdgdcpdaaDoorSp05
import Derived.Test.YtbokhofdgdcpdaaDoorSp15
import Derived.Test.YtbokhofdgdcpdaaDoorSp14
/- What comes in (steps), the listed table as it is laid, the card out of the row. -/
namespace Go.Proofs.YtbokhofdgdcpdaaDoor
open Go.ChangeShapes Go.WideShapes Go.ChangeAt Go.RowKit Go.Deep Go.Joins
set_option maxRecDepth 100000

/-- the numbers of a step fit their types -/
def Stp.fit (s : Stp) : Prop := (-9223372036854775808 ≤ s.k ∧ s.k ≤ 9223372036854775807) ∧ (0 ≤ s.a ∧ s.a ≤ 18446744073709551615) ∧ (0 ≤ s.b ∧ s.b ≤ 18446744073709551615) ∧ (0 ≤ s.c ∧ s.c ≤ 18446744073709551615) ∧ (0 ≤ s.d ∧ s.d ≤ 18446744073709551615)
theorem list5 {α : Type} (l : List α) (h : l.length = 5) : ∃ a b c d e, l = [a, b, c, d, e] := by
  match l, h with
  | [a, b, c, d, e], _ => exact ⟨a, b, c, d, e, rfl⟩
theorem list4 {α : Type} (l : List α) (h : l.length = 4) : ∃ a b c d, l = [a, b, c, d] := by
  match l, h with
  | [a, b, c, d], _ => exact ⟨a, b, c, d, rfl⟩
theorem wf_u64b {n : Int} (h : (Lit.int .u64 n).wf = true) : 0 ≤ n ∧ n ≤ 18446744073709551615 := by
  have := bounds_u64 h
  omega
theorem trod_four {H : Type} {enc : TypeId × Value → H} {w : World} {base : Nat} {sp : Nat → Bool} {hd : Bool} {fuel : Nat} {c0 c1 c2 c3 : Value} {x : DataW H × List MemPlace} (h : DataW.trod enc Tryd.prog w base sp hd fuel 28 [c0, c1, c2, c3] = some x) :
    ∃ a b c d : Int, c0 = .int .u64 a ∧ c1 = .int .u64 b ∧ c2 = .int .u64 c ∧ c3 = .int .u64 d ∧ (0 ≤ a ∧ a ≤ 18446744073709551615) ∧ (0 ≤ b ∧ b ≤ 18446744073709551615) ∧ (0 ≤ c ∧ c ≤ 18446744073709551615) ∧ (0 ≤ d ∧ d ≤ 18446744073709551615) := by
  obtain ⟨y0, y1, y2, y3, m, hx, h0, h1, h2, h3⟩ := trod_array4 Tryd.underlying28 (by kernel_rfl) h
  obtain ⟨x0, e0, rfl, w0⟩ := DataW.trod_int Tryd.underlying26 h0
  obtain ⟨x1, e1, rfl, w1⟩ := DataW.trod_int Tryd.underlying26 h1
  obtain ⟨x2, e2, rfl, w2⟩ := DataW.trod_int Tryd.underlying26 h2
  obtain ⟨x3, e3, rfl, w3⟩ := DataW.trod_int Tryd.underlying26 h3
  simp at e0 e1 e2 e3
  exact ⟨x0, x1, x2, x3, e0, e1, e2, e3, wf_u64b w0, wf_u64b w1, wf_u64b w2, wf_u64b w3⟩
theorem trod_stp {H : Type} {enc : TypeId × Value → H} {w : World} {base : Nat} {sp : Nat → Bool} {hd : Bool} {fuel : Nat} {cs : List Value} {x : DataW H × List MemPlace} (hl : cs.length = 5) (h : DataW.trod enc Tryd.prog w base sp hd fuel 67 cs = some x) :
    ∃ s : Stp, cs = s.cells ∧ s.fit := by
  obtain ⟨c0, c1, c2, c3, c4, rfl⟩ := list5 cs hl
  obtain ⟨y0, y1, n, _, _, h0, h1⟩ := trod_struct2 Tryd.underlying67 h
  have ck : Tryd.prog.cellsOf 65 = 1 := by kernel_rfl
  have cs : Tryd.prog.cellsOf 28 = 4 := by kernel_rfl
  simp [ck, cs] at h0 h1
  obtain ⟨k, e0, _, w0⟩ := DataW.trod_int Tryd.underlying65 h0
  simp at e0
  obtain ⟨a, b, c, d, rfl, rfl, rfl, rfl, f1, f2, f3, f4⟩ := trod_four h1
  exact ⟨⟨k, a, b, c, d⟩, by rw [e0]; rfl, wf_i64 w0, f1, f2, f3, f4⟩
theorem open_slX {H : Type} {enc : TypeId × Value → H} {W : World} {v : Value} {fuel : Nat} {x : DataW H × List MemPlace} (h : DataW.trod enc Tryd.prog W 0 (fun _ => true) true fuel 22 [v] = some x) :
    ∃ L, SlX (fun b => b < W.heap.size) W v L ∧ ∀ s ∈ L, s.fit := by
  have hc : Tryd.prog.cellsOf 67 = 5 := by kernel_rfl
  rcases open_slice Tryd.underlying22 h with ⟨hcs, _⟩ | ⟨ad, len, cap, m, n, D, Pl, hcs, _, hl, hm, hmm, _, hi⟩
  · simp at hcs
    subst hcs
    exact ⟨[], ⟨none, 0, rfl, Nat.le_refl _, by decide, fun _ => rfl, rfl, fun h => absurd h (by simp)⟩, fun s hs => by cases hs⟩
  · simp at hcs
    subst hcs
    have hm' : m = cap := by simpa using hmm
    subst hm'
    have each : ∀ i, i < len → ∃ s : Stp, (∀ j u, s.cells[j]? = some u → W.cell? (ad.add (i * 5 + j)) = some u) ∧ s.fit := fun i hi' => by
      obtain ⟨cs', hcs', ht⟩ := hi i (by omega)
      rw [hc] at hcs'
      obtain ⟨_, hlen, hcell⟩ := World.cells?_some hcs'
      obtain ⟨s, rfl, hf⟩ := trod_stp hlen ht
      refine ⟨s, fun j u hj => ?_, hf⟩
      have hj' : j < 5 := by
        have := (List.getElem?_eq_some_iff.1 hj).1
        simpa [Stp.cells] using this
      have := hcell j hj'
      rw [Go.Deep.add_add] at this
      rw [this]
      exact hj
    obtain ⟨q, hq⟩ := choose_lt each
    have hlen : ((List.range len).map q).length = len := by simp
    refine ⟨(List.range len).map q, ⟨some ad, m, by rw [hlen], by rw [hlen]; exact hl, hm, (fun e => by cases e), ?_⟩, fun s hs => ?_⟩
    · rw [hlen]
      refine ⟨hlen, fun hp => ?_⟩
      obtain ⟨b, off, spot⟩ := ad
      have h0 := (hq 0 hp).1 0 _ rfl
      have hspot : spot = none := by simpa [Addr.add] using World.cell?_spot h0
      subst hspot
      rw [Addr.add_lit] at h0
      refine ⟨b, off, rfl, cell_lt h0, fun i hi' => ?_⟩
      have hg : ((List.range len).map q).getD i default = q i := by simp [List.getD_eq_getElem?_getD, hi']
      rw [hg]
      have := fun j u hj => by
        have h2 := (hq i hi').1 j u hj
        rwa [Addr.add_lit] at h2
      exact ⟨this 0 _ rfl, this 1 _ rfl, this 2 _ rfl, this 3 _ rfl, this 4 _ rfl⟩
    · obtain ⟨i, hi', rfl⟩ := List.mem_map.1 hs
      exact (hq i (List.mem_range.1 hi')).2
theorem open_rx {H : Type} {enc : TypeId × Value → H} {W : World} {a : Option Addr} {len cap : Nat} {d : DataW H} {p : List MemPlace}
    (h : DataW.Trod enc Tryd.prog W 0 (fun _ => true) true 22 (.slice a len cap) d p) : ∃ L, SlX (fun b => b < W.heap.size) W (.slice a len cap) L ∧ ∀ s ∈ L, s.fit := by
  obtain ⟨fuel, hf⟩ := h
  exact open_slX (by simpa [Value.cells] using hf)
theorem fit_wide {s : Stp} (h : s.fit) : s.wide := h.2
theorem SlX.later {w W : World} {v : Value} {L : List Stp} (h : SlX (fun b => b < w.heap.size) w v L) (hb : Below w.heap.size w W) : SlX (fun b => b < W.heap.size) W v L := h.below fun b hlt => ⟨Nat.lt_of_lt_of_le hlt hb.size, hb.block b hlt⟩
theorem SlX.len {C : Nat → Prop} {w : World} {a : Option Addr} {l c : Nat} {L : List Stp} (h : SlX C w (.slice a l c) L) : l = L.length := by
  obtain ⟨_, _, e, _⟩ := h
  simp only [Value.slice.injEq] at e
  exact e.2.1
/-- the table, out of the row's condition -/
theorem of_laid {W : World} {d : DataW Unit} (hd : d = Lib.tabData .u8 (Lib.deBruijn64tab.map fun n : Nat => (n : Int))) (h : laidMetH Tryd.prog [("math/bits.deBruijn64tab", d)] W) : Tab W := by
  subst hd
  rw [MakeChecks.laidMetH_plain _ _ _ (by kernel_rfl)] at h
  obtain ⟨ps, ⟨g, t, cs, fuel, p, q, hg, ht, hv, hd, _, _⟩, _, _⟩ := h
  obtain rfl := Option.some.inj ((show Tryd.prog.globalNamed "math/bits.deBruijn64tab" = some 0 by kernel_rfl).symm.trans hg)
  obtain rfl := Option.some.inj ((show (Tryd.prog.globals[0]?).map (·.type) = some 109 by kernel_rfl).symm.trans ht)
  have e := Lib.cells_of_tab Tryd.underlying109 Tryd.underlying5 (by kernel_rfl) (by kernel_rfl) hd
  intro j hj
  rw [World.var?_cell hg hv j]
  have : cs.toList[j]? = some (.int .u8 (Lib.deBruijn64tab.getD j 0 : Nat)) := by
    rw [e, List.getElem?_map, List.getElem?_map]
    have hl : j < Lib.deBruijn64tab.length := hj
    rw [List.getElem?_eq_getElem hl, List.getD_eq_getElem?_getD, List.getElem?_eq_getElem hl]
    rfl
  simpa using this
end Go.Proofs.YtbokhofdgdcpdaaDoor

/- The trees of what is put together; what Says and Nullable answer, as words. Of no program. -/
namespace Go.Proofs.YtbokhofdgdcpdaaDoor

theorem pushE_under {s : Stp} {u t : List Ex} (h0 : 0 ≤ kOps s.k) (hl : kOps s.k ≤ u.length) : pushE s (u ++ t) = pushE s u ++ t ∧ ((pushE s u).length : Int) = u.length + (1 - kOps s.k) := by
  rcases kind_cases h0 with h | h | h | h | h
  · unfold pushE
    rw [if_pos h, if_pos h, h]
    simp [kOps]
  · unfold pushE
    rw [if_neg (by omega), if_pos h, if_neg (by omega), if_pos h, h]
    simp [kOps]
  · rw [h, show kOps 3 = 2 from rfl] at hl
    match u, hl with
    | b :: a :: r, _ =>
      unfold pushE
      rw [if_neg (by omega), if_neg (by omega), if_pos h, if_neg (by omega), if_neg (by omega), if_pos h, h, show kOps 3 = 2 from rfl]
      simp only [List.cons_append, true_and, List.length_cons]
      omega
    | [a], hl => simp at hl
    | [], hl => simp at hl
  · rw [h, show kOps 4 = 2 from rfl] at hl
    match u, hl with
    | b :: a :: r, _ =>
      unfold pushE
      rw [if_neg (by omega), if_neg (by omega), if_neg (by omega), if_pos h, if_neg (by omega), if_neg (by omega), if_neg (by omega), if_pos h, h, show kOps 4 = 2 from rfl]
      simp only [List.cons_append, true_and, List.length_cons]
      omega
    | [a], hl => simp at hl
    | [], hl => simp at hl
  · have h1 : kOps s.k = 1 := by rcases h with h | h | h <;> rw [h] <;> rfl
    rw [h1] at hl ⊢
    match u, hl with
    | a :: r, _ =>
      unfold pushE
      rw [if_neg (by omega), if_neg (by omega), if_neg (by omega), if_neg (by omega), if_neg (by omega), if_neg (by omega), if_neg (by omega), if_neg (by omega)]
      simp only [List.cons_append, true_and, List.length_cons]
      omega
    | [], hl => simp at hl
theorem treeGo_under : ∀ (M : List Stp) (p : Int) (u t : List Ex), Goes M p → p ≤ u.length → treeGo M (u ++ t) = treeGo M u ++ t
  | [], _, _, _, _, _ => rfl
  | s :: r, p, u, t, ⟨h1, h2, h3⟩, hp => by
    obtain ⟨e1, e2⟩ := pushE_under (s := s) (u := u) (t := t) h1.1 (by omega)
    simp only [treeGo]
    rw [e1]
    exact treeGo_under r _ _ t h3 (by omega)
theorem treeGo_one {L : List Stp} (hE : Expr L) (hw : ∀ s ∈ L, s.wide) : treeGo L [] = [treeE L] := by
  have h := (tree_of hE hw).1
  unfold trees at h
  rw [List.take_length] at h
  have := congrArg List.reverse h
  simpa using this
theorem treeGo_put {L : List Stp} (hE : Expr L) (hw : ∀ s ∈ L, s.wide) (t : List Ex) : treeGo L t = treeE L :: t := by
  have := treeGo_under L 0 [] t hE.1 (by simp)
  rw [List.nil_append, treeGo_one hE hw] at this
  exact this
theorem tree_cat {L M : List Stp} (hL : Expr L) (hM : Expr M) (wL : ∀ s ∈ L, s.wide) (wM : ∀ s ∈ M, s.wide) : treeE (L ++ M ++ [kStp 3]) = .cat (treeE L) (treeE M) := by
  have h : treeGo (L ++ M ++ [kStp 3]) [] = [.cat (treeE L) (treeE M)] := by
    rw [treeGo_append, treeGo_append, treeGo_put hL wL, treeGo_put hM wM]
    rfl
  show (treeGo (L ++ M ++ [kStp 3]) []).headD .emp = _
  rw [h]
  rfl
theorem tree_alt {L M : List Stp} (hL : Expr L) (hM : Expr M) (wL : ∀ s ∈ L, s.wide) (wM : ∀ s ∈ M, s.wide) : treeE (L ++ M ++ [kStp 4]) = .alt (treeE L) (treeE M) := by
  have h : treeGo (L ++ M ++ [kStp 4]) [] = [.alt (treeE L) (treeE M)] := by
    rw [treeGo_append, treeGo_append, treeGo_put hL wL, treeGo_put hM wM]
    rfl
  show (treeGo (L ++ M ++ [kStp 4]) []).headD .emp = _
  rw [h]
  rfl
theorem tree_un {L : List Stp} {k : Int} (hL : Expr L) (wL : ∀ s ∈ L, s.wide) (hk : k = 5 ∨ k = 6 ∨ k = 7) : treeE (L ++ [kStp k]) = .un k (treeE L) := by
  have h : treeGo (L ++ [kStp k]) [] = [.un k (treeE L)] := by
    rw [treeGo_append, treeGo_put hL wL]
    rcases hk with rfl | rfl | rfl <;> rfl
  show (treeGo (L ++ [kStp k]) []).headD .emp = _
  rw [h]
  rfl
theorem kStp_wide (k : Int) : (kStp k).wide := ⟨by simp [kStp], by simp [kStp], by simp [kStp], by simp [kStp]⟩
theorem wide_one {L : List Stp} (k : Int) (h : ∀ s ∈ L, s.wide) : ∀ s ∈ L ++ [kStp k], s.wide := fun s hs => by
  rcases List.mem_append.1 hs with hs | hs
  · exact h s hs
  · simp only [List.mem_singleton] at hs
    subst hs
    exact kStp_wide k
theorem wide_two {L M : List Stp} (k : Int) (h : ∀ s ∈ L, s.wide) (h' : ∀ s ∈ M, s.wide) : ∀ s ∈ L ++ M ++ [kStp k], s.wide := wide_one k fun s hs => by
  rcases List.mem_append.1 hs with hs | hs
  · exact h s hs
  · exact h' s hs
end Go.Proofs.YtbokhofdgdcpdaaDoor

/- Spots that a word leads to, byte by byte; the mathematics, without the program. -/
namespace Go.Proofs.YtbokhofdgdcpdaaDoor

/-- a path, and one step more -/
theorem Path.snoc {S E : Nat → Nat → Bool} {p r q c : Nat} {u : List Nat} (h : Path S E p u r) (e : E r q = true) (s : S q c = true) : Path S E p (u ++ [c]) q := h.then e (.one s)
theorem Path.unsnoc {S E : Nat → Nat → Bool} : ∀ {p q c : Nat} {u : List Nat}, u ≠ [] → Path S E p (u ++ [c]) q → ∃ r, Path S E p u r ∧ E r q = true ∧ S q c = true
  | p, q, c, [], h, _ => absurd rfl h
  | p, q, c, [a], _, h => by
    cases h with
    | more h e t =>
      cases t with
      | one h2 => exact ⟨p, .one h, e, h2⟩
      | more _ _ t2 => exact absurd rfl (path_ne t2)
  | p, q, c, a :: b :: u, _, h => by
    cases h with
    | more h e t =>
      obtain ⟨r, h1, h2, h3⟩ := Path.unsnoc (u := b :: u) (by simp) t
      exact ⟨r, .more h e h1, h2, h3⟩
/-- the first k bytes lead to q -/
def Come (e : Ex) (W : List Nat) (k q : Nat) : Prop := 0 < k ∧ ∃ p, gF e 0 p = true ∧ Path (gS e 0) (gE e 0) p (W.take k) q
/-- what may come next -/
def Nxt (e : Ex) (W : List Nat) (k q : Nat) : Prop := (k = 0 ∧ gF e 0 q = true) ∨ ∃ p, Come e W k p ∧ gE e 0 p q = true
theorem come_zero (e : Ex) (W : List Nat) (q : Nat) : ¬ Come e W 0 q := fun h => Nat.lt_irrefl _ h.1
theorem come_more {e : Ex} {W : List Nat} {k : Nat} (hk : k < W.length) (q : Nat) : Come e W (k + 1) q ↔ Nxt e W k q ∧ gS e 0 q (W.getD k 0) = true := by
  have htk : W.take (k + 1) = W.take k ++ [W.getD k 0] := by
    rw [List.take_succ_eq_append_getElem hk, List.getD_eq_getElem?_getD, List.getElem?_eq_getElem hk]
    rfl
  unfold Come Nxt
  rw [htk]
  constructor
  · rintro ⟨_, p, hp, h⟩
    by_cases h0 : k = 0
    · subst h0
      rw [List.take_zero, List.nil_append] at h
      cases h with
      | one h => exact ⟨.inl ⟨rfl, hp⟩, h⟩
      | more _ _ t => exact absurd rfl (path_ne t)
    · obtain ⟨r, h1, h2, h3⟩ := Path.unsnoc (List.length_pos_iff.1 (by rw [List.length_take]; omega)) h
      exact ⟨.inr ⟨r, ⟨by omega, p, hp, h1⟩, h2⟩, h3⟩
  · rintro ⟨h | ⟨r, ⟨h0, p, hp, h1⟩, h2⟩, h3⟩
    · obtain ⟨rfl, hp⟩ := h
      refine ⟨by omega, q, hp, ?_⟩
      rw [List.take_zero, List.nil_append]
      exact .one h3
    · exact ⟨by omega, p, hp, h1.snoc h2 h3⟩
theorem come_lt {e : Ex} {W : List Nat} {k q : Nat} (h : Come e W k q) : q < plc e := by
  obtain ⟨h0, p, _, h⟩ := h
  have key : ∀ {p q : Nat} {u : List Nat}, Path (gS e 0) (gE e 0) p u q → q < plc e := by
    intro p q u h
    induction h with
    | one h => have := gS_in _ _ _ _ h; omega
    | more _ _ _ ih => exact ih
  exact key h
theorem nxt_lt {e : Ex} {W : List Nat} {k q : Nat} (h : Nxt e W k q) : q < plc e := by
  rcases h with ⟨_, h⟩ | ⟨p, _, h⟩
  · have := gF_in _ _ _ h; omega
  · have := gE_in _ _ _ _ h; omega
/-- said, just if the word leads to a last spot, or is empty and may be -/
theorem come_said {e : Ex} (he : e.ok) (W : List Nat) : ((W.length = 0 ∧ nul e = true) ∨ ∃ p, Come e W W.length p ∧ gL e 0 p = true) ↔ Lang e W := by
  by_cases h0 : W = []
  · subst h0
    rw [← nul_iff e he]
    constructor
    · rintro (h | ⟨p, h, _⟩)
      · exact h.2
      · exact absurd h (come_zero _ _ _)
    · exact fun h => .inl ⟨rfl, h⟩
  · have hl : 0 < W.length := List.length_pos_iff.2 h0
    rw [← led_iff e he 0 W h0]
    unfold Led Come
    rw [List.take_length]
    constructor
    · rintro (h | ⟨q, ⟨_, p, hp, h⟩, hq⟩)
      · omega
      · exact ⟨p, q, hp, h, hq⟩
    · rintro ⟨p, q, hp, h, hq⟩
      exact .inr ⟨q, ⟨hl, p, hp, h⟩, hq⟩
/-- numbers below m, each once, are m at most -/
theorem nodup_len : ∀ (m : Nat) (l : List Nat), l.Nodup → (∀ x ∈ l, x < m) → l.length ≤ m
  | 0, [], _, _ => Nat.le_refl _
  | 0, x :: r, _, h => by have := h x (by simp); omega
  | m + 1, l, hn, h => by
    by_cases hm : m ∈ l
    · have h1 := nodup_len m (l.erase m) (hn.erase m) (fun x hx => by
        have h2 := (hn.mem_erase_iff).1 hx
        have := h x h2.2
        have := h2.1
        omega)
      rw [List.length_erase_of_mem hm] at h1
      omega
    · have h1 := nodup_len m l hn (fun x hx => by
        have h2 := h x hx
        have h3 : x ≠ m := fun e => hm (e ▸ hx)
        omega)
      omega
theorem sets_sets : ∀ e : Ex, e.ok → sets (ops e) = (setsE e).map sStp
  | .set f, _ => rfl
  | .emp, _ => rfl
  | .un k a, ⟨hk, ha⟩ => by
    have h := sets_sets a ha
    unfold sets at *
    simp only [ops, setsE, List.filter_append, h]
    rcases hk with rfl | rfl | rfl <;> simp [kStp]
  | .alt a c, ⟨ha, hc⟩ => by
    have h := sets_sets a ha
    have h' := sets_sets c hc
    unfold sets at *
    simp only [ops, setsE, List.filter_append, h, h', List.map_append]
    simp [kStp]
  | .cat a c, ⟨ha, hc⟩ => by
    have h := sets_sets a ha
    have h' := sets_sets c hc
    unfold sets at *
    simp only [ops, setsE, List.filter_append, h, h', List.map_append]
    simp [kStp]
theorem set_at {e : Ex} (he : e.ok) {q : Nat} (hq : q < plc e) : ∃ f, (sets (ops e)).getD q default = sStp f ∧ ∀ c, c < 256 → gS e 0 q c = f c := by
  refine ⟨(setsE e).getD q fNone, ?_, fun c hc => ?_⟩
  · rw [sets_sets e he, List.getD_eq_getElem?_getD, List.getD_eq_getElem?_getD, List.getElem?_map, List.getElem?_eq_getElem (by rw [setsE_len]; exact hq)]
    rfl
  · rw [gS_sets]
    simp [hc]
end Go.Proofs.YtbokhofdgdcpdaaDoor
