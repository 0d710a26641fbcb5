/- Sets, slices of sets, and arrays of 256 bytes, as they come in. -/
import Derived.Test.YtanjpajnciifiaaKiKn
import Derived.Laws.IdiomArrays
import Derived.Deep.Slices
import Derived.LaidMore
namespace Go.Proofs.Ytanjpajnciifiaa
open Go.ChangeShapes Go.WideShapes Go.ChangeAt Go.RowKit Go.Deep

theorem list4 {α : Type} (l : List α) (h : l.length = 4) : ∃ a b c d, l = [a, b, c, d] := by
  match l, h with
  | [a, b, c, d], _ => exact ⟨a, b, c, d, rfl⟩
theorem wf_u64 {n : Int} (h : (Lit.int .u64 n).wf = true) : ∃ m : Nat, n = m ∧ m < 18446744073709551616 := by
  have := bounds_u64 h
  exact ⟨n.toNat, by omega, by omega⟩
/-- four cells that read as an array of four numbers are the words of a set -/
theorem trod_set {H : Type} {enc : TypeId × Value → H} {w : World} {base : Nat} {sp : Nat → Bool} {hd : Bool} {fuel : Nat} {cs : List Value} {x : DataW H × List MemPlace} (hl : cs.length = 4) (h : DataW.trod enc Try.prog w base sp hd fuel 32 cs = some x) :
    ∃ f : Nat → Bool, cs = [.int .u64 (word (f) 0), .int .u64 (word (f) 1), .int .u64 (word (f) 2), .int .u64 (word (f) 3)] := by
  obtain ⟨c0, c1, c2, c3, rfl⟩ := list4 cs hl
  obtain ⟨y0, y1, y2, y3, m, hx, h0, h1, h2, h3⟩ := trod_array4 Try.underlying32 (by kernel_rfl) h
  obtain ⟨x0, e0, rfl, w0⟩ := DataW.trod_int Try.underlying30 h0
  obtain ⟨x1, e1, rfl, w1⟩ := DataW.trod_int Try.underlying30 h1
  obtain ⟨x2, e2, rfl, w2⟩ := DataW.trod_int Try.underlying30 h2
  obtain ⟨x3, e3, rfl, w3⟩ := DataW.trod_int Try.underlying30 h3
  simp at e0 e1 e2 e3
  subst e0 e1 e2 e3
  obtain ⟨a, rfl, ha⟩ := wf_u64 w0
  obtain ⟨b, rfl, hb⟩ := wf_u64 w1
  obtain ⟨c, rfl, hc⟩ := wf_u64 w2
  obtain ⟨d, rfl, hd'⟩ := wf_u64 w3
  obtain ⟨m0, m1, m2, m3⟩ := word_mem ha hb hc hd'
  exact ⟨mem a b c d, by rw [m0, m1, m2, m3]⟩
theorem open_set {H : Type} {enc : TypeId × Value → H} {w : World} {b0 : Nat} {v : Value} {d : DataW H} {p : List MemPlace} {base : Nat} {sp : Nat → Bool} {hd : Bool}
    (hv : Value.okWide Try.prog w .any b0 32 v) (h : DataW.Trod enc Try.prog w base sp hd 32 v d p) : ∃ f : Nat → Bool, v = (.agg #[.int .u64 (word (f) 0), .int .u64 (word (f) 1), .int .u64 (word (f) 2), .int .u64 (word (f) 3)]) := by
  obtain ⟨cs, rfl, hsz, _⟩ : ∃ cs, v = .agg cs ∧ cs.size = Try.prog.cellsOf 32 ∧ Row.okWide Try.prog w .any b0 32 cs := by
    simpa [Value.okWide, Try.underlying32] using hv
  have hc : Try.prog.cellsOf 32 = 4 := by kernel_rfl
  obtain ⟨fuel, hf⟩ := h
  obtain ⟨f, e⟩ := trod_set (by simpa [Value.cells, hc] using hsz) hf
  refine ⟨f, ?_⟩
  obtain ⟨l⟩ := cs
  have e : l = [.int .u64 (word (f) 0), .int .u64 (word (f) 1), .int .u64 (word (f) 2), .int .u64 (word (f) 3)] := e
  rw [e]
theorem open_sets {H : Type} {enc : TypeId × Value → H} {w : World} {a : Option Addr} {len cap : Nat} {d : DataW H} {p : List MemPlace}
    (h : DataW.Trod enc Try.prog w 0 (fun _ => true) true 22 (.slice a len cap) d p) : ∃ fs, cap ≤ maxLen ∧ len ≤ cap ∧ Sets w a len fs := by
  obtain ⟨fuel, hf⟩ := h
  have hc : Try.prog.cellsOf 32 = 4 := by kernel_rfl
  rcases open_slice Try.underlying22 hf with ⟨hcs, _⟩ | ⟨x, l, c, m, n, D, Pl, hcs, _, hl, hm, hmm, _, hi⟩
  · simp [Value.cells] at hcs
    obtain ⟨rfl, rfl, rfl⟩ := hcs
    exact ⟨[], Nat.zero_le _, Nat.le_refl _, rfl, fun h => by omega⟩
  · simp [Value.cells] at hcs
    obtain ⟨rfl, rfl, rfl⟩ := hcs
    have hm' : m = cap := by simpa using hmm
    subst hm'
    have hone : ∀ i, i < m → ∃ f : Nat → Bool, ∀ j, j < 4 → w.cell? (x.add (i * 4 + j)) = some (.int .u64 (word f j)) := fun i hi' => by
      obtain ⟨cs', hcs', ht⟩ := hi i hi'
      rw [hc] at hcs'
      obtain ⟨_, hlen, hcell⟩ := World.cells?_some hcs'
      obtain ⟨f, rfl⟩ := trod_set hlen ht
      refine ⟨f, fun j hj => ?_⟩
      have := hcell j hj
      rw [Go.Deep.add_add] at this
      rw [this]
      match j, hj with
      | 0, _ | 1, _ | 2, _ | 3, _ => rfl
    have hall : ∃ F : Nat → Nat → Bool, ∀ i, i < m → ∀ j, j < 4 → w.cell? (x.add (i * 4 + j)) = some (.int .u64 (word (F i) j)) :=
      ⟨fun i => if h : i < m then (hone i h).choose else fNone, fun i hi' j hj => by
        simp only [hi', dif_pos]
        exact (hone i hi').choose_spec j hj⟩
    obtain ⟨F, hF⟩ := hall
    refine ⟨(List.range len).map F, hm, hl, by simp, fun hp => ?_⟩
    obtain ⟨b, off, spot⟩ := x
    have h0 := hF 0 (by omega) 0 (by decide)
    have hspot : spot = none := by simpa [Addr.add] using World.cell?_spot h0
    subst hspot
    rw [Addr.add_lit] at h0
    refine ⟨b, off, rfl, cell_lt h0, fun i hi' j hj => ?_⟩
    have := hF i (by omega) j hj
    rw [Addr.add_lit] at this
    rw [Nat.add_assoc, this]
    simp [List.getD_eq_getElem?_getD, hi']


/-- 256 cells that read as an array of bytes -/
theorem trod_arr {H : Type} {enc : TypeId × Value → H} {w : World} {base : Nat} {sp : Nat → Bool} {hd : Bool} {fuel : Nat} {cs : List Value} {x : DataW H × List MemPlace} (h : DataW.trod enc Try.prog w base sp hd fuel 24 cs = some x) :
    ∃ g : Nat → Nat, (∀ j, j < 256 → g j < 256) ∧ ∀ j, j < 256 → cs[j]? = some (.int .u8 (g j : Int)) := by
  obtain ⟨xs, m, rfl, hx, hlc, hxl, hi⟩ := DataW.trod_array Try.underlying24 h
  have hc : Try.prog.cellsOf 5 = 1 := by kernel_rfl
  have hone : ∀ j, j < 256 → ∃ n : Nat, n < 256 ∧ cs[j]? = some (.int .u8 (n : Int)) := fun j hj => by
    have h1 := hi j hj
    rw [hc, Nat.mul_one, List.getElem?_eq_getElem (by omega)] at h1
    obtain ⟨n, e, _, wn⟩ := DataW.trod_int Try.underlying5 h1
    have hb := wf_u8 wn
    refine ⟨n.toNat, by omega, ?_⟩
    have h2 : (cs.drop j).take 1 = [Value.int .u8 n] := e
    have h3 := congrArg (fun l => l[0]?) h2
    simp at h3
    rw [h3]
    congr 2
    omega
  exact ⟨fun j => if h : j < 256 then (hone j h).choose else 0, fun j hj => by simp only [hj, dif_pos]; exact (hone j hj).choose_spec.1, fun j hj => by simp only [hj, dif_pos]; exact (hone j hj).choose_spec.2⟩
theorem open_arr {H : Type} {enc : TypeId × Value → H} {w : World} {b0 : Nat} {v : Value} {d : DataW H} {p : List MemPlace} {base : Nat} {sp : Nat → Bool} {hd : Bool}
    (hv : Value.okWide Try.prog w .any b0 24 v) (h : DataW.Trod enc Try.prog w base sp hd 24 v d p) : ∃ g : Nat → Nat, v = ar g ∧ ∀ j, j < 256 → g j < 256 := by
  obtain ⟨cs, rfl, hsz, _⟩ : ∃ cs, v = .agg cs ∧ cs.size = Try.prog.cellsOf 24 ∧ Row.okWide Try.prog w .any b0 24 cs := by
    simpa [Value.okWide, Try.underlying24] using hv
  have hc : Try.prog.cellsOf 24 = 256 := by kernel_rfl
  obtain ⟨fuel, hf⟩ := h
  have hl : cs.toList.length = 256 := by simpa [hc] using hsz
  obtain ⟨g, h1, h2⟩ := trod_arr (cs := cs.toList) (by simpa [Value.cells] using hf)
  refine ⟨g, ?_, h1⟩
  show Value.agg cs = .agg (cellsN (nV g))
  congr 1
  apply Array.ext
  · rw [cellsN_size]; simpa using hl
  · intro j h3 h4
    have hj : j < 256 := by rw [cellsN_size] at h4; exact h4
    have e1 := h2 j hj
    have e2 := cellsN_get (nV g) hj
    have e3 : cs[j]? = some (.int .u8 (g j : Int)) := by simpa using e1
    rw [Array.getElem?_eq_getElem h3] at e3
    rw [Array.getElem?_eq_getElem h4] at e2
    exact (Option.some.inj e3).trans (Option.some.inj e2).symm
end Go.Proofs.Ytanjpajnciifiaa
