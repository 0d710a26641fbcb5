/- What must come: the chapter's example; two arrays held against one another. -/
import Derived.Test.YtanjpajnciifiaaKiOf
import Derived.Laws.StructEq
import Derived.ChangeKeysEq
namespace Go.Proofs.Ytanjpajnciifiaa
open Go.RowKit

theorem sets_two (w : World) (f g : Nat → Bool) (t : TypeId) : Sets (w.alloc (.cells #[.int .u64 (word (f) 0), .int .u64 (word (f) 1), .int .u64 (word (f) 2), .int .u64 (word (f) 3), .int .u64 (word (g) 0), .int .u64 (word (g) 1), .int .u64 (word (g) 2), .int .u64 (word (g) 3)] t)) (some ⟨w.heap.size, 0, none⟩) 2 [f, g] := by
  refine ⟨rfl, fun _ => ⟨_, 0, rfl, by simp, fun i hi j hj => ?_⟩⟩
  rw [World.cell?_alloc_at _ _ _ _ rfl]
  match i, hi, j, hj with
  | 0, _, 0, _ | 0, _, 1, _ | 0, _, 2, _ | 0, _, 3, _ | 1, _, 0, _ | 1, _, 1, _ | 1, _, 2, _ | 1, _, 3, _ => rfl

/-- the example's sets -/
def exL : List (Nat → Bool) := [fSpan 97 99, fOne 98]
theorem ex_n : cntK (keyL exL) 256 = 3 := by decide +kernel
theorem ex_0 : clsK (keyL exL) 0 = 0 := by decide +kernel
theorem ex_97 : clsK (keyL exL) 97 = 1 := by decide +kernel
theorem ex_98 : clsK (keyL exL) 98 = 2 := by decide +kernel
theorem ex_99 : clsK (keyL exL) 99 = 1 := by decide +kernel

/-- two arrays held against one another -/
theorem items_step {P : Program} {w : World} {d : Nat} {e : TypeId} {k : IntKind} (he : P.plainKey e = true) (hu : P.underlying e = some (.int k)) {xs ys : Array Value} {j : Nat} {x y : Int} {is : List Nat} {r : Bool}
    (hx : xs[j * 1]? = some (.int k x)) (hy : ys[j * 1]? = some (.int k y)) (h : (Op.eqItems (d + 1) e 1 xs ys is).run P w = .ok r w) : (Op.eqItems (d + 1) e 1 xs ys (j :: is)).run P w = .ok (x == y && r) w := by
  simp only [Op.eqItems, Sem.run_bind]
  rw [run_part_plain (P := P) (w := w) he hx]
  simp only [Result.andThen_ok]
  rw [run_part_plain (P := P) (w := w) he hy]
  simp only [Result.andThen_ok]
  rw [run_equalIn_int w d e k k x y hu]
  simp only [Result.andThen_ok]
  cases (x == y)
  · simp
  · simpa using h
theorem eq_items (w : World) (g h : Nat → Nat) : ∀ is : List Nat, (∀ j ∈ is, j < 256) → (Op.eqItems 9999 5 1 (cellsN (nV g)) (cellsN (nV h)) is).run Try.prog w = .ok (is.all fun j => ((g j : Int) == (h j : Int))) w
  | [], _ => by simp [Op.eqItems]
  | j :: is, hj => by
    rw [List.all_cons]
    exact items_step (d := 9998) (by kernel_rfl) Try.underlying5 (by rw [Nat.mul_one]; exact cellsN_get _ (hj j (by simp))) (by rw [Nat.mul_one]; exact cellsN_get _ (hj j (by simp))) (eq_items w g h is fun i hi => hj i (by simp [hi]))
/-- the same at each place -/
def sameA (g h : Nat → Nat) : Bool := (List.range 256).all fun j => ((g j : Int) == (h j : Int))
theorem sameA_of {g h : Nat → Nat} (e : ∀ j, j < 256 → g j = h j) : sameA g h = true := by
  unfold sameA
  rw [List.all_eq_true]
  intro j hj
  rw [e j (by simpa using hj)]
  simp
theorem eq_arrs (w : World) (g h : Nat → Nat) : (Op.equalIn 10000 24 (ar g) (ar h)).run Try.prog w = .ok (sameA g h) w := by
  obtain ⟨i, hi⟩ : ∃ i, Try.prog.info? 5 = some i := Option.isSome_iff_exists.1 (by kernel_rfl)
  have hc : Try.prog.cellsOf 5 = 1 := by kernel_rfl
  rw [run_equalIn_array (P := Try.prog) (w := w) 9999 _ _ Try.underlying24 hi, hc]
  exact eq_items w g h _ fun j hj => by simpa using hj
theorem eq_same (w : World) {g h : Nat → Nat} (e : ∀ j, j < 256 → g j = h j) : (Op.equalIn 10000 24 (ar g) (ar h)).run Try.prog w = .ok true w := by
  rw [eq_arrs, sameA_of e]

/-- a whole array is loaded, at a guarded operation -/
theorem wp_load_arr {o : Oper} {a : Act} {w : World} {K : Act → World → Prop} {Q : Exit → Act → World → Prop} {x : Operand} (ho : o.op = .load 24 x)
    {B : Nat} {v : Nat → Value} (hx : a.eval x = .pointer (some ⟨B, 0, none⟩)) (hA : ArrAt w B 24 v)
    (h : K (a.put o.dst (.agg (cellsN v))) w) : o.wp Try.prog a w K Q :=
  wp_load_row 24 x ho B hx 24 _ _ _ hA Try.underlying24 rfl (by rw [cellsN_size]; exact size_arr) h

set_option maxHeartbeats 1000000 in
set_option maxRecDepth 100000 in
theorem knows_calls (w : World) :
    Calls Try.prog 7 #[] w fun e w' => e = .returned (.bool true) ∧ Below w.heap.size w w' := by
  have hal := run_zero_arr
  go_enter Try.func7, Try.ntmps7
  go_wp2_with fail
  refine (rspan_calls 97 99 _).mono ?_
  rintro e w1 ⟨rfl, hb1⟩
  go_wp2_with fail
  refine (rone_calls 98 _ (by omega)).mono ?_
  rintro e w2 ⟨rfl, hb2⟩
  have HB2 := hidden (below_after hb1 hb2)
  have HS := hidden (sets_two w2 (fSpan 97 99) (fOne 98) 32)
  clear hb1 hb2
  go_wp2_with fail
  refine (of_calls (some ⟨w2.heap.size, 0, none⟩) 2 2 exL _ (by omega) HS.out).mono ?_
  rintro e w3 ⟨rfl, hb3⟩
  rw [ex_n]
  have HB3 := hidden (below_after (HB2.out.alloc HB2.out.size (.cells #[.int .u64 (word (fSpan 97 99) 0), .int .u64 (word (fSpan 97 99) 1), .int .u64 (word (fSpan 97 99) 2), .int .u64 (word (fSpan 97 99) 3), .int .u64 (word (fOne 98) 0), .int .u64 (word (fOne 98) 1), .int .u64 (word (fOne 98) 2), .int .u64 (word (fOne 98) 3)] 32)) hb3)
  have HN := hidden (ArrAt.new w3 24 (nV fun _ => 0))
  clear hb3
  have HST := hidden (show ∀ w4, w4 = (w3.alloc (.cells (cellsN (nV fun _ => 0)) 24)).setRow w3.heap.size (cellsN (nV (clsK (keyL exL)))) → ArrAt w4 w3.heap.size 24 (nV (clsK (keyL exL))) ∧ Below w.heap.size w w4 from fun w4 e => by
    subst e
    exact ⟨HN.out.storedRow _, below_setRow (HB3.out.alloc HB3.out.size _) HB3.out.size _⟩)
  go_wp2_with (first
    | (refine store_arr rfl (x := .tmp 1) (y := .tmp 8) rfl (B := w3.heap.size) (clsK (keyL exL)) rfl rfl HN.out ?_; intro w4 hw4 hs4; have HX := hidden (HST.out w4 hw4.out); have c0 := HX.out.1.cell (j := 0) (by omega); have c97 := HX.out.1.cell (j := 97) (by omega); have c98 := HX.out.1.cell (j := 98) (by omega); have c99 := HX.out.1.cell (j := 99) (by omega); unfold nV at c0 c97 c98 c99; rw [ex_0] at c0; rw [ex_97] at c97; rw [ex_98] at c98; rw [ex_99] at c99; clear hw4 hs4)
    | fail)
  refine wp_load_arr (x := .tmp 1) rfl (B := w3.heap.size) rfl HX.out.1 ?_
  have HW := hidden (fun w' => width_calls (clsK (keyL exL)) w' (fun j hj => Nat.lt_of_lt_of_le (cls_lt _ hj) (cnt_le _ 256)))
  go_wp2_with fail
  refine (HW.out _).mono ?_
  rintro e w5 ⟨rfl, hb5⟩
  rw [wid_cls, ex_n]
  have HB5 := hidden (below_after HX.out.2 hb5)
  clear hb5
  go_wp2
  go_ret
  exact ⟨rfl, HB5.out⟩
end Go.Proofs.Ytanjpajnciifiaa
