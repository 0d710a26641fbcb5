/- Sets, and slices of sets, as they come in; the listed table as it is laid; the card out of the row. -/
import Derived.Test.YtfnpepmbklclfaaDoorSetKnows
import Derived.Test.YtfnpepmbklclfaaDoorTie
import Derived.Test.YtfnpepmbklclfaaDoorCards
import Derived.Laws.IdiomArrays
import Derived.Deep.Slices
import Derived.LaidMore
import Derived.Lay
import Derived.Lib.LaidTab
import Derived.SevenTiedAt
import Derived.Stop.Joined
namespace Go.Proofs.YtfnpepmbklclfaaDoor
open Go.ChangeShapes Go.WideShapes Go.ChangeAt Go.RowKit Go.Deep

theorem list4 {α : Type} (l : List α) (h : l.length = 4) : ∃ a b c d, l = [a, b, c, d] := by
  match l, h with
  | [a, b, c, d], _ => exact ⟨a, b, c, d, rfl⟩
theorem wf_u64 {n : Int} (h : (Lit.int .u64 n).wf = true) : ∃ m : Nat, n = m ∧ m < 18446744073709551616 := by
  have := bounds_u64 h
  exact ⟨n.toNat, by omega, by omega⟩
/-- four cells that read as an array of four numbers are the words of a set -/
theorem trod_set {H : Type} {enc : TypeId × Value → H} {w : World} {base : Nat} {sp : Nat → Bool} {hd : Bool} {fuel : Nat} {cs : List Value} {x : DataW H × List MemPlace} (hl : cs.length = 4) (h : DataW.trod enc Tryd.prog w base sp hd fuel 24 cs = some x) :
    ∃ f : Nat → Bool, cs = [.int .u64 (word (f) 0), .int .u64 (word (f) 1), .int .u64 (word (f) 2), .int .u64 (word (f) 3)] := by
  obtain ⟨c0, c1, c2, c3, rfl⟩ := list4 cs hl
  obtain ⟨y0, y1, y2, y3, m, hx, h0, h1, h2, h3⟩ := trod_array4 Tryd.underlying24 (by kernel_rfl) h
  obtain ⟨x0, e0, rfl, w0⟩ := DataW.trod_int Tryd.underlying22 h0
  obtain ⟨x1, e1, rfl, w1⟩ := DataW.trod_int Tryd.underlying22 h1
  obtain ⟨x2, e2, rfl, w2⟩ := DataW.trod_int Tryd.underlying22 h2
  obtain ⟨x3, e3, rfl, w3⟩ := DataW.trod_int Tryd.underlying22 h3
  simp at e0 e1 e2 e3
  subst e0 e1 e2 e3
  obtain ⟨a, rfl, ha⟩ := wf_u64 w0
  obtain ⟨b, rfl, hb⟩ := wf_u64 w1
  obtain ⟨c, rfl, hc⟩ := wf_u64 w2
  obtain ⟨d, rfl, hd'⟩ := wf_u64 w3
  obtain ⟨m0, m1, m2, m3⟩ := word_mem ha hb hc hd'
  exact ⟨mem a b c d, by rw [m0, m1, m2, m3]⟩
theorem open_set {H : Type} {enc : TypeId × Value → H} {w : World} {b0 : Nat} {v : Value} {d : DataW H} {p : List MemPlace} {base : Nat} {sp : Nat → Bool} {hd : Bool}
    (hv : Value.okWide Tryd.prog w .any b0 24 v) (h : DataW.Trod enc Tryd.prog w base sp hd 24 v d p) : ∃ f : Nat → Bool, v = (.agg #[.int .u64 (word (f) 0), .int .u64 (word (f) 1), .int .u64 (word (f) 2), .int .u64 (word (f) 3)]) := by
  obtain ⟨cs, rfl, hsz, _⟩ : ∃ cs, v = .agg cs ∧ cs.size = Tryd.prog.cellsOf 24 ∧ Row.okWide Tryd.prog w .any b0 24 cs := by
    simpa [Value.okWide, Tryd.underlying24] using hv
  have hc : Tryd.prog.cellsOf 24 = 4 := by kernel_rfl
  obtain ⟨fuel, hf⟩ := h
  obtain ⟨f, e⟩ := trod_set (by simpa [Value.cells, hc] using hsz) hf
  refine ⟨f, ?_⟩
  obtain ⟨l⟩ := cs
  have e : l = [.int .u64 (word (f) 0), .int .u64 (word (f) 1), .int .u64 (word (f) 2), .int .u64 (word (f) 3)] := e
  rw [e]
theorem open_sets {H : Type} {enc : TypeId × Value → H} {w : World} {a : Option Addr} {len cap : Nat} {d : DataW H} {p : List MemPlace}
    (h : DataW.Trod enc Tryd.prog w 0 (fun _ => true) true 29 (.slice a len cap) d p) : ∃ fs, cap ≤ maxLen ∧ len ≤ cap ∧ Sets w a len fs := by
  obtain ⟨fuel, hf⟩ := h
  have hc : Tryd.prog.cellsOf 24 = 4 := by kernel_rfl
  rcases open_slice Tryd.underlying29 hf with ⟨hcs, _⟩ | ⟨x, l, c, m, n, D, Pl, hcs, _, hl, hm, hmm, _, hi⟩
  · simp [Value.cells] at hcs
    obtain ⟨rfl, rfl, rfl⟩ := hcs
    exact ⟨[], Nat.zero_le _, Nat.le_refl _, rfl, fun h => by omega⟩
  · simp [Value.cells] at hcs
    obtain ⟨rfl, rfl, rfl⟩ := hcs
    have hm' : m = cap := by simpa using hmm
    subst hm'
    have hone : ∀ i, i < m → ∃ f : Nat → Bool, ∀ j, j < 4 → w.cell? (x.add (i * 4 + j)) = some (.int .u64 (word f j)) := fun i hi' => by
      obtain ⟨cs', hcs', ht⟩ := hi i hi'
      rw [hc] at hcs'
      obtain ⟨_, hlen, hcell⟩ := World.cells?_some hcs'
      obtain ⟨f, rfl⟩ := trod_set hlen ht
      refine ⟨f, fun j hj => ?_⟩
      have := hcell j hj
      rw [Go.Deep.add_add] at this
      rw [this]
      match j, hj with
      | 0, _ | 1, _ | 2, _ | 3, _ => rfl
    have hall : ∃ F : Nat → Nat → Bool, ∀ i, i < m → ∀ j, j < 4 → w.cell? (x.add (i * 4 + j)) = some (.int .u64 (word (F i) j)) :=
      ⟨fun i => if h : i < m then (hone i h).choose else fNone, fun i hi' j hj => by
        simp only [hi', dif_pos]
        exact (hone i hi').choose_spec j hj⟩
    obtain ⟨F, hF⟩ := hall
    refine ⟨(List.range len).map F, hm, hl, by simp, fun hp => ?_⟩
    obtain ⟨b, off, spot⟩ := x
    have h0 := hF 0 (by omega) 0 (by decide)
    have hspot : spot = none := by simpa [Addr.add] using World.cell?_spot h0
    subst hspot
    rw [Addr.add_lit] at h0
    refine ⟨b, off, rfl, cell_lt h0, fun i hi' j hj => ?_⟩
    have := hF i (by omega) j hj
    rw [Addr.add_lit] at this
    rw [Nat.add_assoc, this]
    simp [List.getD_eq_getElem?_getD, hi']

/-- the table, out of the row's condition -/
theorem of_laid {W : World} {d : DataW Unit} (hd : d = Lib.tabData .u8 (Lib.deBruijn64tab.map fun n : Nat => (n : Int))) (h : laidMetH Tryd.prog [("math/bits.deBruijn64tab", d)] W) : Tab W := by
  subst hd
  rw [MakeChecks.laidMetH_plain _ _ _ (by kernel_rfl)] at h
  obtain ⟨ps, ⟨g, t, cs, fuel, p, q, hg, ht, hv, hd, _, _⟩, _, _⟩ := h
  obtain rfl := Option.some.inj ((show Tryd.prog.globalNamed "math/bits.deBruijn64tab" = some 0 by kernel_rfl).symm.trans hg)
  obtain rfl := Option.some.inj ((show (Tryd.prog.globals[0]?).map (·.type) = some 49 by kernel_rfl).symm.trans ht)
  have e := Lib.cells_of_tab Tryd.underlying49 Tryd.underlying5 (by kernel_rfl) (by kernel_rfl) hd
  intro j hj
  rw [World.var?_cell hg hv j]
  have : cs.toList[j]? = some (.int .u8 (Lib.deBruijn64tab.getD j 0 : Nat)) := by
    rw [e, List.getElem?_map, List.getElem?_map]
    have hl : j < Lib.deBruijn64tab.length := hj
    rw [List.getElem?_eq_getElem hl, List.getD_eq_getElem?_getD, List.getElem?_eq_getElem hl]
    rfl
  simpa using this
end Go.Proofs.YtfnpepmbklclfaaDoor
