/- FaOpen, FaShort, put together. -/
import Derived.Test.YthkboclooplpeaaGreatDoorRf40
import Derived.Test.YthkboclooplpeaaGreatDoorTie
import Derived.Test.YthkboclooplpeaaGreatDoorCards
import Derived.Laws.IdiomArrays
import Derived.Deep.Slices
import Derived.LaidMore
import Derived.Lay
import Derived.Lib.LaidTab
import Derived.SevenTiedAt
import Derived.Stop.Joined
import Derived.Test.YthkboclooplpeaaGreatDoorRf13
import Derived.Test.YthkboclooplpeaaGreatDoorRf14
/- What comes in (steps), the listed table as it is laid, the card out of the row. -/
namespace Go.Proofs.YthkboclooplpeaaGreatDoor
open Go.ChangeShapes Go.WideShapes Go.ChangeAt Go.RowKit Go.Deep Go.Joins
set_option maxRecDepth 100000

/-- the numbers of a step fit their types -/
def Stp.fit (s : Stp) : Prop := (-9223372036854775808 ≤ s.k ∧ s.k ≤ 9223372036854775807) ∧ (0 ≤ s.a ∧ s.a ≤ 18446744073709551615) ∧ (0 ≤ s.b ∧ s.b ≤ 18446744073709551615) ∧ (0 ≤ s.c ∧ s.c ≤ 18446744073709551615) ∧ (0 ≤ s.d ∧ s.d ≤ 18446744073709551615)
theorem list5 {α : Type} (l : List α) (h : l.length = 5) : ∃ a b c d e, l = [a, b, c, d, e] := by
  match l, h with
  | [a, b, c, d, e], _ => exact ⟨a, b, c, d, e, rfl⟩
theorem list4 {α : Type} (l : List α) (h : l.length = 4) : ∃ a b c d, l = [a, b, c, d] := by
  match l, h with
  | [a, b, c, d], _ => exact ⟨a, b, c, d, rfl⟩
theorem wf_u64b {n : Int} (h : (Lit.int .u64 n).wf = true) : 0 ≤ n ∧ n ≤ 18446744073709551615 := by
  have := bounds_u64 h
  omega
theorem trod_four {H : Type} {enc : TypeId × Value → H} {w : World} {base : Nat} {sp : Nat → Bool} {hd : Bool} {fuel : Nat} {c0 c1 c2 c3 : Value} {x : DataW H × List MemPlace} (h : DataW.trod enc Tryz.prog w base sp hd fuel 33 [c0, c1, c2, c3] = some x) :
    ∃ a b c d : Int, c0 = .int .u64 a ∧ c1 = .int .u64 b ∧ c2 = .int .u64 c ∧ c3 = .int .u64 d ∧ (0 ≤ a ∧ a ≤ 18446744073709551615) ∧ (0 ≤ b ∧ b ≤ 18446744073709551615) ∧ (0 ≤ c ∧ c ≤ 18446744073709551615) ∧ (0 ≤ d ∧ d ≤ 18446744073709551615) := by
  obtain ⟨y0, y1, y2, y3, m, hx, h0, h1, h2, h3⟩ := trod_array4 Tryz.underlying33 (by kernel_rfl) h
  obtain ⟨x0, e0, rfl, w0⟩ := DataW.trod_int Tryz.underlying31 h0
  obtain ⟨x1, e1, rfl, w1⟩ := DataW.trod_int Tryz.underlying31 h1
  obtain ⟨x2, e2, rfl, w2⟩ := DataW.trod_int Tryz.underlying31 h2
  obtain ⟨x3, e3, rfl, w3⟩ := DataW.trod_int Tryz.underlying31 h3
  simp at e0 e1 e2 e3
  exact ⟨x0, x1, x2, x3, e0, e1, e2, e3, wf_u64b w0, wf_u64b w1, wf_u64b w2, wf_u64b w3⟩
theorem trod_stp {H : Type} {enc : TypeId × Value → H} {w : World} {base : Nat} {sp : Nat → Bool} {hd : Bool} {fuel : Nat} {cs : List Value} {x : DataW H × List MemPlace} (hl : cs.length = 5) (h : DataW.trod enc Tryz.prog w base sp hd fuel 73 cs = some x) :
    ∃ s : Stp, cs = s.cells ∧ s.fit := by
  obtain ⟨c0, c1, c2, c3, c4, rfl⟩ := list5 cs hl
  obtain ⟨y0, y1, n, _, _, h0, h1⟩ := trod_struct2 Tryz.underlying73 h
  have ck : Tryz.prog.cellsOf 71 = 1 := by kernel_rfl
  have cs : Tryz.prog.cellsOf 33 = 4 := by kernel_rfl
  simp [ck, cs] at h0 h1
  obtain ⟨k, e0, _, w0⟩ := DataW.trod_int Tryz.underlying71 h0
  simp at e0
  obtain ⟨a, b, c, d, rfl, rfl, rfl, rfl, f1, f2, f3, f4⟩ := trod_four h1
  exact ⟨⟨k, a, b, c, d⟩, by rw [e0]; rfl, wf_i64 w0, f1, f2, f3, f4⟩
theorem open_slX {H : Type} {enc : TypeId × Value → H} {W : World} {v : Value} {fuel : Nat} {x : DataW H × List MemPlace} (h : DataW.trod enc Tryz.prog W 0 (fun _ => true) true fuel 22 [v] = some x) :
    ∃ L, SlX (fun b => b < W.heap.size) W v L ∧ ∀ s ∈ L, s.fit := by
  have hc : Tryz.prog.cellsOf 73 = 5 := by kernel_rfl
  rcases open_slice Tryz.underlying22 h with ⟨hcs, _⟩ | ⟨ad, len, cap, m, n, D, Pl, hcs, _, hl, hm, hmm, _, hi⟩
  · simp at hcs
    subst hcs
    exact ⟨[], ⟨none, 0, rfl, Nat.le_refl _, by decide, fun _ => rfl, rfl, fun h => absurd h (by simp)⟩, fun s hs => by cases hs⟩
  · simp at hcs
    subst hcs
    have hm' : m = cap := by simpa using hmm
    subst hm'
    have each : ∀ i, i < len → ∃ s : Stp, (∀ j u, s.cells[j]? = some u → W.cell? (ad.add (i * 5 + j)) = some u) ∧ s.fit := fun i hi' => by
      obtain ⟨cs', hcs', ht⟩ := hi i (by omega)
      rw [hc] at hcs'
      obtain ⟨_, hlen, hcell⟩ := World.cells?_some hcs'
      obtain ⟨s, rfl, hf⟩ := trod_stp hlen ht
      refine ⟨s, fun j u hj => ?_, hf⟩
      have hj' : j < 5 := by
        have := (List.getElem?_eq_some_iff.1 hj).1
        simpa [Stp.cells] using this
      have := hcell j hj'
      rw [Go.Deep.add_add] at this
      rw [this]
      exact hj
    obtain ⟨q, hq⟩ := choose_lt each
    have hlen : ((List.range len).map q).length = len := by simp
    refine ⟨(List.range len).map q, ⟨some ad, m, by rw [hlen], by rw [hlen]; exact hl, hm, (fun e => by cases e), ?_⟩, fun s hs => ?_⟩
    · rw [hlen]
      refine ⟨hlen, fun hp => ?_⟩
      obtain ⟨b, off, spot⟩ := ad
      have h0 := (hq 0 hp).1 0 _ rfl
      have hspot : spot = none := by simpa [Addr.add] using World.cell?_spot h0
      subst hspot
      rw [Addr.add_lit] at h0
      refine ⟨b, off, rfl, cell_lt h0, fun i hi' => ?_⟩
      have hg : ((List.range len).map q).getD i default = q i := by simp [List.getD_eq_getElem?_getD, hi']
      rw [hg]
      have := fun j u hj => by
        have h2 := (hq i hi').1 j u hj
        rwa [Addr.add_lit] at h2
      exact ⟨this 0 _ rfl, this 1 _ rfl, this 2 _ rfl, this 3 _ rfl, this 4 _ rfl⟩
    · obtain ⟨i, hi', rfl⟩ := List.mem_map.1 hs
      exact (hq i (List.mem_range.1 hi')).2
theorem open_rx {H : Type} {enc : TypeId × Value → H} {W : World} {a : Option Addr} {len cap : Nat} {d : DataW H} {p : List MemPlace}
    (h : DataW.Trod enc Tryz.prog W 0 (fun _ => true) true 22 (.slice a len cap) d p) : ∃ L, SlX (fun b => b < W.heap.size) W (.slice a len cap) L ∧ ∀ s ∈ L, s.fit := by
  obtain ⟨fuel, hf⟩ := h
  exact open_slX (by simpa [Value.cells] using hf)
theorem fit_wide {s : Stp} (h : s.fit) : s.wide := h.2
theorem SlX.later {w W : World} {v : Value} {L : List Stp} (h : SlX (fun b => b < w.heap.size) w v L) (hb : Below w.heap.size w W) : SlX (fun b => b < W.heap.size) W v L := h.below fun b hlt => ⟨Nat.lt_of_lt_of_le hlt hb.size, hb.block b hlt⟩
theorem SlX.len {C : Nat → Prop} {w : World} {a : Option Addr} {l c : Nat} {L : List Stp} (h : SlX C w (.slice a l c) L) : l = L.length := by
  obtain ⟨_, _, e, _⟩ := h
  simp only [Value.slice.injEq] at e
  exact e.2.1
/-- the table, out of the row's condition -/
theorem of_laid {W : World} {d : DataW Unit} (hd : d = Lib.tabData .u8 (Lib.deBruijn64tab.map fun n : Nat => (n : Int))) (h : laidMetH Tryz.prog [("math/bits.deBruijn64tab", d)] W) : Tab W := by
  subst hd
  rw [MakeChecks.laidMetH_plain _ _ _ (by kernel_rfl)] at h
  obtain ⟨ps, ⟨g, t, cs, fuel, p, q, hg, ht, hv, hd, _, _⟩, _, _⟩ := h
  obtain rfl := Option.some.inj ((show Tryz.prog.globalNamed "math/bits.deBruijn64tab" = some 0 by kernel_rfl).symm.trans hg)
  obtain rfl := Option.some.inj ((show (Tryz.prog.globals[0]?).map (·.type) = some 138 by kernel_rfl).symm.trans ht)
  have e := Lib.cells_of_tab Tryz.underlying138 Tryz.underlying5 (by kernel_rfl) (by kernel_rfl) hd
  intro j hj
  rw [World.var?_cell hg hv j]
  have : cs.toList[j]? = some (.int .u8 (Lib.deBruijn64tab.getD j 0 : Nat)) := by
    rw [e, List.getElem?_map, List.getElem?_map]
    have hl : j < Lib.deBruijn64tab.length := hj
    rw [List.getElem?_eq_getElem hl, List.getD_eq_getElem?_getD, List.getElem?_eq_getElem hl]
    rfl
  simpa using this
end Go.Proofs.YthkboclooplpeaaGreatDoor

/- Contracts of the reference's shortest and longest, at the steps of a tree. -/
namespace Go.Proofs.YthkboclooplpeaaGreatDoor
open Go.RowKit Go.Lib Go.Joins

theorem none_same (f : Nat → Bool) : sameSet f fNone = noneF f := by
  rw [Bool.eq_iff_iff, same_iff, noneF_iff]
  rfl
section
variable {b off cap : Nat} {L : List Stp}
def Tells (b off cap : Nat) (L : List Stp) (F : FuncId) (i : Nat) (n : Int) : Prop := ∀ w, Lay b off L w → Calls Tryz.prog F #[.slice (some ⟨b, off, none⟩) L.length cap, .int .i64 i] w fun e w' => e = .returned (.int .i64 n) ∧ w = w'
def Begins (b off cap : Nat) (L : List Stp) (j y : Nat) : Prop := ∀ w, Lay b off L w → Calls Tryz.prog 84 #[.slice (some ⟨b, off, none⟩) L.length cap, .int .i64 j] w fun e w' => e = .returned (.int .i64 y) ∧ w = w'
set_option maxRecDepth 100000 in
theorem rshSet {i : Nat} {f : Nat → Bool} (hi : i < L.length) (hk : L.getD i default = sStp f) : Tells b off cap L 53 i (shE (.set f)) := by
  intro w h
  have hr := h.2 i hi
  rw [hk] at hr
  obtain ⟨d0, d1, d2, d3, d4⟩ := hr
  have c0 : w.cell? ⟨b, off + i * 5, none⟩ = some (.int .i64 1) := d0
  have c1 : w.cell? ⟨b, off + i * 5 + 1, none⟩ = some (.int .u64 (word f 0)) := d1
  have c2 : w.cell? ⟨b, off + i * 5 + 2, none⟩ = some (.int .u64 (word f 1)) := d2
  have c3 : w.cell? ⟨b, off + i * 5 + 3, none⟩ = some (.int .u64 (word f 2)) := d3
  have c4 : w.cell? ⟨b, off + i * 5 + 4, none⟩ = some (.int .u64 (word f 3)) := d4
  clear d0 d1 d2 d3 d4
  have hq := fun w => eq_none w f
  simp only [none_same] at hq
  have HE := hidden (show shE (.set f) = if noneF f = true then -1 else 1 from rfl)
  generalize L.length = n at *
  obtain ⟨x, hx⟩ : ∃ x, x = noneF f := ⟨_, rfl⟩
  rw [← hx] at HE
  simp only [← hx] at hq
  clear h hk hx
  cases x
  all_goals
    go_enter Tryz.func53, Tryz.ntmps53
    go_wp2
    go_ret
    exact ⟨ret_i (by rw [HE.out]; rfl), rfl⟩
set_option maxRecDepth 100000 in
theorem rshFlat {i : Nat} {k : Int} (hi : i < L.length) (hk : (L.getD i default).k = k) (hk2 : k = 2 ∨ k = 5 ∨ k = 7) : Tells b off cap L 53 i 0 := by
  intro w h
  have c0 := h.kind hi hk
  generalize L.length = n at *
  clear h hk
  rcases hk2 with rfl | rfl | rfl
  all_goals
    go_enter Tryz.func53, Tryz.ntmps53
    go_wp2
    go_ret
    exact ⟨rfl, rfl⟩
set_option maxRecDepth 100000 in
theorem rshUn6 {i j : Nat} {x : Int} (hi : i < L.length) (hk : (L.getD i default).k = 6) (hj : j + 1 = i) (hl : L.length ≤ 1000) (HA : Tells b off cap L 53 j x) : Tells b off cap L 53 i x := by
  intro w h
  have c0 := h.kind hi hk
  have HAA := hidden (HA w h)
  have hsub : IntKind.i64.wrap ((i : Int) - 1) = j := by rw [IntKind.wrap_i64]; omega
  generalize L.length = n at *
  clear h hk hj HA
  go_enter Tryz.func53, Tryz.ntmps53
  go_wp2_with fail
  refine HAA.out.mono ?_
  rintro e w1 ⟨rfl, rfl⟩
  go_wp2
  go_ret
  exact ⟨rfl, rfl⟩
set_option maxHeartbeats 2000000 in
set_option maxRecDepth 100000 in
theorem rshTwo {i j y l : Nat} {k x z r : Int} (hi : i < L.length) (hk : (L.getD i default).k = k) (hk2 : k = 3 ∧ r = (if x = -1 ∨ z = -1 then -1 else x + z) ∨ k = 4 ∧ r = (if x = -1 ∨ z = -1 then max x z else min x z)) (hj : j + 1 = i) (hy : l + 1 = y) (hl : L.length ≤ 1000) (hyl : y ≤ 1000) (hx : -1 ≤ x ∧ x ≤ 1000) (hz : -1 ≤ z ∧ z ≤ 1000)
    (HA : Tells b off cap L 53 l x) (HC : Tells b off cap L 53 j z) (HB : Begins b off cap L j y) :
    Tells b off cap L 53 i r := by
  intro w h
  have c0 := h.kind hi hk
  have HAA := hidden (HA w h)
  have HCC := hidden (HC w h)
  have HBB := hidden (HB w h)
  have hsub : IntKind.i64.wrap ((i : Int) - 1) = j := by rw [IntKind.wrap_i64]; omega
  have hsub2 : IntKind.i64.wrap ((y : Int) - 1) = l := by rw [IntKind.wrap_i64]; omega
  have hadd : IntKind.i64.wrap (x + z) = x + z := by rw [IntKind.wrap_i64]; omega
  generalize L.length = n at *
  clear h hk hj HA HC HB hy
  rcases hk2 with ⟨rfl, hr⟩ | ⟨rfl, hr⟩
  · by_cases h1 : x < 0
    · rw [if_pos (by omega)] at hr
      have HR := hidden hr
      have d1 : decide (x < 0) = true := decide_eq_true h1
      clear hx hz hr
      go_enter Tryz.func53, Tryz.ntmps53
      go_wp2_with fail
      refine HCC.out.mono ?_
      rintro e w1 ⟨rfl, rfl⟩
      go_wp2_with fail
      refine HBB.out.mono ?_
      rintro e w1 ⟨rfl, rfl⟩
      go_wp2_with fail
      refine HAA.out.mono ?_
      rintro e w1 ⟨rfl, rfl⟩
      go_wp2
      go_ret
      exact ⟨ret_i HR.out.symm, rfl⟩
    · have d1 : decide (x < 0) = false := decide_eq_false h1
      by_cases h2 : z < 0
      · rw [if_pos (by omega)] at hr
        have HR := hidden hr
        have d2 : decide (z < 0) = true := decide_eq_true h2
        clear hx hz hr
        go_enter Tryz.func53, Tryz.ntmps53
        go_wp2_with fail
        refine HCC.out.mono ?_
        rintro e w1 ⟨rfl, rfl⟩
        go_wp2_with fail
        refine HBB.out.mono ?_
        rintro e w1 ⟨rfl, rfl⟩
        go_wp2_with fail
        refine HAA.out.mono ?_
        rintro e w1 ⟨rfl, rfl⟩
        go_wp2
        go_ret
        exact ⟨ret_i HR.out.symm, rfl⟩
      · rw [if_neg (by omega)] at hr
        have HR := hidden hr
        have d2 : decide (z < 0) = false := decide_eq_false h2
        clear hx hz hr
        go_enter Tryz.func53, Tryz.ntmps53
        go_wp2_with fail
        refine HCC.out.mono ?_
        rintro e w1 ⟨rfl, rfl⟩
        go_wp2_with fail
        refine HBB.out.mono ?_
        rintro e w1 ⟨rfl, rfl⟩
        go_wp2_with fail
        refine HAA.out.mono ?_
        rintro e w1 ⟨rfl, rfl⟩
        go_wp2
        go_ret
        exact ⟨ret_i HR.out.symm, rfl⟩
  · have cases3 : (x < 0 ∧ r = z) ∨ (0 ≤ x ∧ z < 0 ∧ r = x) ∨ (0 ≤ x ∧ 0 ≤ z ∧ z < x ∧ r = z) ∨ (0 ≤ x ∧ 0 ≤ z ∧ x ≤ z ∧ r = x) := by
      split at hr <;> omega
    clear hr
    rcases cases3 with ⟨h1, hr⟩ | ⟨h1, h2, hr⟩ | ⟨h1, h2, h3, hr⟩ | ⟨h1, h2, h3, hr⟩
    case' inr.inl =>
      have d1 : decide (x < 0) = true := decide_eq_true h1
    case' inr.inr.inl =>
      have d1 : decide (x < 0) = false := decide_eq_false (by omega)
      have d2 : decide (0 ≤ z) = false := decide_eq_false (by omega)
    case' inr.inr.inr.inl =>
      have d1 : decide (x < 0) = false := decide_eq_false (by omega)
      have d2 : decide (0 ≤ z) = true := decide_eq_true (by omega)
      have d3 : decide (z < x) = true := decide_eq_true (by omega)
    case' inr.inr.inr.inr =>
      have d1 : decide (x < 0) = false := decide_eq_false (by omega)
      have d2 : decide (0 ≤ z) = true := decide_eq_true (by omega)
      have d3 : decide (z < x) = false := decide_eq_false (by omega)
    all_goals
      have HR := hidden hr
      clear hx hz hr
      go_enter Tryz.func53, Tryz.ntmps53
      go_wp2_with fail
      refine HCC.out.mono ?_
      rintro e w1 ⟨rfl, rfl⟩
      go_wp2_with fail
      refine HBB.out.mono ?_
      rintro e w1 ⟨rfl, rfl⟩
      go_wp2_with fail
      refine HAA.out.mono ?_
      rintro e w1 ⟨rfl, rfl⟩
      go_wp2
      go_ret
      exact ⟨ret_i HR.out.symm, rfl⟩
theorem set_end {x z : List Stp} {f : Nat → Bool} {i : Nat} (hL : L = x ++ ops (.set f) ++ z) (hi : i + 1 = x.length + (ops (.set f)).length) : L.getD i default = sStp f := by
  have hx : i = x.length + ([] : List Stp).length := by simp [ops] at hi; simp; omega
  rw [hx, hL]
  exact getD_end x [] z (sStp f)
theorem begins {e : Ex} (he : e.ok) (hl : L.length ≤ 1000) {x z : List Stp} {i : Nat} (hL : L = x ++ ops e ++ z) (hi : i + 1 = x.length + (ops e).length) : Begins b off cap L i x.length := fun _ hw => rbegin_calls hw hl e he x z i hL hi
/-- where the parts of two stand -/
theorem two_parts {k : Int} {a c : Ex} {e : Ex} (he : ops e = ops a ++ ops c ++ [kStp k]) {x z : List Stp} {i : Nat} (hL : L = x ++ ops e ++ z) (hi : i + 1 = x.length + (ops e).length) :
    (L = (x ++ ops a) ++ ops c ++ ([kStp k] ++ z) ∧ i - 1 + 1 = (x ++ ops a).length + (ops c).length) ∧ (L = x ++ ops a ++ (ops c ++ [kStp k] ++ z) ∧ x.length + (ops a).length - 1 + 1 = x.length + (ops a).length) ∧ i - 1 + 1 = i ∧ x.length + (ops a).length - 1 + 1 = (x ++ ops a).length ∧ (x ++ ops a).length ≤ L.length := by
  have hp := ops_pos a
  have hp2 := ops_pos c
  rw [he] at hL hi
  simp only [List.length_append, List.length_cons, List.length_nil] at hi
  refine ⟨⟨by rw [hL]; simp, ?_⟩, ⟨by rw [hL]; simp, by omega⟩, by omega, ?_, ?_⟩
  · simp only [List.length_append]; omega
  · simp only [List.length_append]; omega
  · rw [hL]; simp only [List.length_append]; omega
theorem short_le {e : Ex} {x z : List Stp} (hL : L = x ++ ops e ++ z) (hl : L.length ≤ 1000) : -1 ≤ shE e ∧ shE e ≤ 1000 := by
  have := sh_range e
  rw [hL] at hl
  simp only [List.length_append] at hl
  omega
theorem rshort (hl : L.length ≤ 1000) : ∀ (e : Ex), e.ok → ∀ (x z : List Stp) (i : Nat), L = x ++ ops e ++ z → i + 1 = x.length + (ops e).length → Tells b off cap L 53 i (shE e)
  | .set f, _, x, z, i, hL, hi => rshSet (at_end hL hi).1 (set_end hL hi)
  | .emp, _, x, z, i, hL, hi => rshFlat (at_end hL hi).1 (at_end hL hi).2 (.inl rfl)
  | .un k a, ⟨hk, ha⟩, x, z, i, hL, hi => by
    obtain ⟨h1, h2⟩ := at_end hL hi
    have hp := ops_pos a
    have hlen : (ops (.un k a)).length = (ops a).length + 1 := by simp [ops]
    rcases hk with rfl | rfl | rfl
    · exact rshFlat h1 h2 (.inr (.inl rfl))
    · exact rshUn6 (j := i - 1) h1 h2 (by omega) hl (rshort hl a ha x ([kStp 6] ++ z) (i - 1) (by rw [hL]; simp [ops]) (by omega))
    · exact rshFlat h1 h2 (.inr (.inr rfl))
  | .cat a c, ⟨ha, hc⟩, x, z, i, hL, hi => by
    obtain ⟨h1, h2⟩ := at_end hL hi
    obtain ⟨⟨p1, p2⟩, ⟨p3, p4⟩, p5, p6, p7⟩ := two_parts (k := 3) (a := a) (c := c) rfl hL hi
    have := rshTwo (b := b) (off := off) (cap := cap) h1 h2 (.inl ⟨rfl, rfl⟩) p5 p6 hl (by omega) (short_le p3 hl) (short_le p1 hl) (rshort hl a ha _ _ _ p3 p4) (rshort hl c hc _ _ _ p1 p2) (begins hc hl p1 p2)
    exact this
  | .alt a c, ⟨ha, hc⟩, x, z, i, hL, hi => by
    obtain ⟨h1, h2⟩ := at_end hL hi
    obtain ⟨⟨p1, p2⟩, ⟨p3, p4⟩, p5, p6, p7⟩ := two_parts (k := 4) (a := a) (c := c) rfl hL hi
    have := rshTwo (b := b) (off := off) (cap := cap) h1 h2 (.inr ⟨rfl, rfl⟩) p5 p6 hl (by omega) (short_le p3 hl) (short_le p1 hl) (rshort hl a ha _ _ _ p3 p4) (rshort hl c hc _ _ _ p1 p2) (begins hc hl p1 p2)
    exact this
end
end Go.Proofs.YthkboclooplpeaaGreatDoor
