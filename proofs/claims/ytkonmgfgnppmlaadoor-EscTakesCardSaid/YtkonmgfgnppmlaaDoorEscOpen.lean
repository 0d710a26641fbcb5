/- The listed table of names as it is laid; the card out of the row. -/
import Derived.Test.YtkonmgfgnppmlaaDoorEscKnows
import Derived.Test.YtkonmgfgnppmlaaDoorTie
import Derived.Test.YtkonmgfgnppmlaaDoorCards
import Derived.LaidMore
import Derived.Lay
import Derived.Lib.LaidTab
import Derived.SevenTiedAt
import Derived.Stop.Joined
namespace Go.Proofs.YtkonmgfgnppmlaaDoor
open Go.ChangeShapes Go.WideShapes Go.ChangeAt Go.RowKit

theorem row_cells {H : Type} {enc : TypeId × Value → H} {w : World} {base : Nat} {sp : Nat → Bool} {hd : Bool} {fuel : Nat} {cs : List Value} {a b : Int} {p : List MemPlace}
    (h : DataW.trod enc Tryd.prog w base sp hd fuel 51 cs = some (.agg [.lit (.int .u8 a), .lit (.int .u8 b)], p)) : cs = [.int .u8 a, .int .u8 b] := by
  obtain ⟨y0, y1, n, hx, hl, h0, h1⟩ := trod_struct2 Tryd.underlying51 h
  have hc : Tryd.prog.cellsOf 51 = 2 := by kernel_rfl
  have hc1 : Tryd.prog.cellsOf 5 = 1 := by kernel_rfl
  rw [hc] at hl
  match cs, hl with
  | [c0, c1], _ =>
    simp only [hc1, List.drop_zero, List.drop_succ_cons, List.take_succ_cons, List.take_zero] at h0 h1
    obtain ⟨x0, e0, rfl, _⟩ := DataW.trod_int Tryd.underlying5 h0
    obtain ⟨x1, e1, rfl, _⟩ := DataW.trod_int Tryd.underlying5 h1
    simp at e0 e1 hx
    obtain ⟨⟨rfl, rfl⟩, _⟩ := hx
    rw [e0, e1]

/-- the table, out of the row's condition -/
theorem of_laid {W : World} {d : DataW Unit} (hd : d = .agg [.agg [.lit (.int .u8 110), .lit (.int .u8 10)], .agg [.lit (.int .u8 116), .lit (.int .u8 9)], .agg [.lit (.int .u8 114), .lit (.int .u8 13)], .agg [.lit (.int .u8 34), .lit (.int .u8 34)], .agg [.lit (.int .u8 92), .lit (.int .u8 92)]])
    (h : laidMetH Tryd.prog [("facsimile/esc.names", d)] W) : Tab W := by
  subst hd
  rw [MakeChecks.laidMetH_plain _ _ _ (by kernel_rfl)] at h
  obtain ⟨ps, ⟨g, t, cs, fuel, p, q, hg, ht, hv, hd, _, _⟩, _, _⟩ := h
  obtain rfl := Option.some.inj ((show Tryd.prog.globalNamed "facsimile/esc.names" = some 0 by kernel_rfl).symm.trans hg)
  obtain rfl := Option.some.inj ((show (Tryd.prog.globals[0]?).map (·.type) = some 52 by kernel_rfl).symm.trans ht)
  obtain ⟨xs, m, _, hx, _, hxl, hi⟩ := DataW.trod_array Tryd.underlying52 hd
  have hc : Tryd.prog.cellsOf 51 = 2 := by kernel_rfl
  rw [hc] at hi
  match xs, hxl with
  | [⟨x0, p0⟩, ⟨x1, p1⟩, ⟨x2, p2⟩, ⟨x3, p3⟩, ⟨x4, p4⟩], _ =>
    simp at hx
    obtain ⟨⟨rfl, rfl, rfl, rfl, rfl⟩, _⟩ := hx
    have r0 := row_cells (hi 0 (by decide))
    have r1 := row_cells (hi 1 (by decide))
    have r2 := row_cells (hi 2 (by decide))
    have r3 := row_cells (hi 3 (by decide))
    have r4 := row_cells (hi 4 (by decide))
    have two : ∀ (k : Nat) (a b : Value), ((cs.toList.drop k).take 2) = [a, b] → cs.toList[k]? = some a ∧ cs.toList[k + 1]? = some b := fun k a b e => by
      have e0 := congrArg (·[0]?) e
      have e1 := congrArg (·[1]?) e
      simp [List.getElem?_drop] at e0 e1
      simpa using ⟨e0, e1⟩
    have t0 := two _ _ _ r0
    have t1 := two _ _ _ r1
    have t2 := two _ _ _ r2
    have t3 := two _ _ _ r3
    have t4 := two _ _ _ r4
    intro j hj
    rw [World.var?_cell hg hv j]
    have key : cs.toList[j]? = some (.int .u8 (tabN.getD j 0)) := by
      match j, hj with
      | 0, _ => exact t0.1
      | 1, _ => exact t0.2
      | 2, _ => exact t1.1
      | 3, _ => exact t1.2
      | 4, _ => exact t2.1
      | 5, _ => exact t2.2
      | 6, _ => exact t3.1
      | 7, _ => exact t3.2
      | 8, _ => exact t4.1
      | 9, _ => exact t4.2
    simpa using key
end Go.Proofs.YtkonmgfgnppmlaaDoor
