/- Contracts of num.Cap and the reference's Cap. -/
import Derived.Test.YtlciajdkjchmcaaBase
namespace Go.Proofs.Ytlciajdkjchmcaa
open Go.RowKit

theorem add_calls (n s t : Int) (g h : Nat) (w : World) (hn0 : -9223372036854775808 ≤ n) (hn1 : n ≤ 9223372036854775807) (hs : 0 ≤ s) (hst : s ≤ t) (ht : t ≤ 9223372036854775807)
    (hc : w.cell? ⟨g, 0, none⟩ = some (.int .i64 s)) (hf : w.frozen? ⟨g, 0, none⟩ = false) (hc2 : w.cell? ⟨h, 0, none⟩ = some (.int .i64 t)) :
    Calls Try.prog 21 #[.int .i64 n, .pointer (some ⟨g, 0, none⟩), .pointer (some ⟨h, 0, none⟩)] w fun e w' => e = .returned (.tuple #[]) ∧ w.setCell ⟨g, 0, none⟩ (.int .i64 (s + min (max n 0) (t - s))) = w' := by
  go_enter Try.func21, Try.ntmps21
  go_wp2
  all_goals
    go_end0
    refine ⟨rfl, congrArg (fun x => w.setCell ⟨g, 0, none⟩ (.int .i64 x)) ?_⟩
    omega

/-- the sum that stops at a top -/
def capF (t s : Int) (xs : List Int) : Int := xs.foldl (fun s n => s + min (max n 0) (t - s)) s
def capV (top : Int) (xs : List Int) : Int := capF (max top 0) 0 xs
/-- numbers of an int, all of them -/
def AllInts (xs : List Int) : Prop := ∀ i, i < xs.length → -9223372036854775808 ≤ xs.getD i 0 ∧ xs.getD i 0 ≤ 9223372036854775807
theorem all_ints {xs : List Int} (h : Fits .i64 xs) : AllInts xs := fun i hi => wf_i64 (h i hi)

theorem capF_bounds {t : Int} : ∀ (xs : List Int) (s : Int), 0 ≤ s → s ≤ t → 0 ≤ capF t s xs ∧ capF t s xs ≤ t := by
  intro xs
  induction xs with
  | nil => intro s h0 h1; exact ⟨h0, h1⟩
  | cons x r ih => intro s h0 h1; exact ih (s + min (max x 0) (t - s)) (by omega) (by omega)
theorem capF_snoc (t s : Int) (xs : List Int) (x : Int) : capF t s (xs ++ [x]) = capF t s xs + min (max x 0) (t - capF t s xs) := by
  unfold capF; rw [List.foldl_append]; rfl
theorem take_next (xs : List Int) (k : Nat) (h : k < xs.length) : xs.take (k + 1) = xs.take k ++ [xs.getD k 0] := by
  rw [List.take_succ_eq_append_getElem h, List.getD_eq_getElem?_getD, List.getElem?_eq_getElem h]; rfl

/-- the two variables of the call: the sum's, which is written, and the top's -/
def Two (w : World) (g h : Nat) (s t : Int) : Prop :=
  w.heap[g]? = some (.cells #[.int .i64 s] 3 (0, 0)) ∧ w.heap[h]? = some (.cells #[.int .i64 t] 3 (0, 0))
theorem two_cells {w : World} {g h : Nat} {s t : Int} (H : Two w g h s t) : w.cell? ⟨g, 0, none⟩ = some (.int .i64 s) ∧ w.frozen? ⟨g, 0, none⟩ = false ∧ w.cell? ⟨h, 0, none⟩ = some (.int .i64 t) := by
  refine ⟨?_, ?_, ?_⟩
  · rw [cell_of_row w g 0 _ _ _ H.1]; rfl
  · simp [World.frozen?, H.1]
  · rw [cell_of_row w h 0 _ _ _ H.2]; rfl
theorem two_set {w : World} {g h : Nat} {s t : Int} (H : Two w g h s t) (hn : h ≠ g) (u : Int) : Two (w.setCell ⟨g, 0, none⟩ (.int .i64 u)) g h u t := by
  refine ⟨?_, ?_⟩
  · simp [World.setCell, Array.getElem?_modify, H.1]
  · rw [Below.heap_setCell _ _ _ _ hn]; exact H.2

set_option maxRecDepth 100000 in
theorem cap_calls (top : Int) (a : Option Addr) (len cap : Nat) (xs : List Int) (w : World) (h0 : -9223372036854775808 ≤ top) (h1 : top ≤ 9223372036854775807) (hl : len ≤ maxLen)
    (hx : AllInts xs) (hi : Ints .i64 w w.heap.size a len xs) :
    Calls Try.prog 14 #[.int .i64 top, .slice a len cap] w fun e w' => e = .returned (.int .i64 (capV top xs)) ∧ Below w.heap.size w w' := by
  unfold maxLen at hl
  have Hlen := hidden hi.1
  have Hi := hidden hi
  clear hi
  have ht : top < 0 ∨ 0 ≤ top := by omega
  obtain ⟨T, hT⟩ : ∃ T, T = max top 0 := ⟨_, rfl⟩
  have hT0 : 0 ≤ T := by omega
  have hT1 : T ≤ 9223372036854775807 := by omega
  have hV : capV top xs = capF T 0 xs := by rw [hT]; rfl
  have HV := hidden hV
  have HT := hidden hT
  clear hV hT
  have hTw : ∀ t : Int, t = T → Two ((w.alloc (.cells #[.int .i64 t] 3)).alloc (.cells #[.int .i64 0] 3)) (w.heap.size + 1) w.heap.size 0 T := fun t e => by
    subst e
    exact ⟨by simpa using heap_alloc_new (w.alloc (.cells #[.int .i64 t] 3)) (.cells #[.int .i64 0] 3), (Below.heap_alloc _ _ _ (by simp)).trans (heap_alloc_new w _)⟩
  have HTw := hidden hTw
  clear hTw
  rcases ht with ht | ht
  all_goals
    go_enter Try.func14, Try.ntmps14
    go_wp2
    go_loopw [14] (fun i wr => ∃ k : Nat, k ≤ len ∧ i = .int .i64 k ∧ Two wr (w.heap.size + 1) w.heap.size (capF T 0 (xs.take k)) T ∧ Below w.heap.size w wr) (fun i _ => len - (intOf i).toNat)
    case atStart =>
      refine ⟨0, Nat.zero_le _, rfl, HTw.out _ ?_, ((Below.refl _ _).alloc (Nat.le_refl _) _).alloc (by simp) _⟩
      have := HT.out
      omega
    case round =>
      obtain ⟨k, hk, rfl, htw, hb⟩ := hrel
      obtain ⟨hc1, hf1, hc2⟩ := two_cells htw
      have hbd := capF_bounds (t := T) (xs.take k) 0 (by omega) hT0
      by_cases hlt : k < len
      · obtain ⟨b, off, rfl, hB, hcell⟩ := Hi.out.2 (by omega)
        have hcx : wr.cell? ⟨b, off + k, none⟩ = some (.int .i64 (xs.getD k 0)) := (hb.cell (p := ⟨b, off + k, none⟩) hB).trans (hcell k hlt)
        have hxk := hx k (by have := Hlen.out; omega)
        clear hcell
        have htw' := hidden (two_set htw (by omega) (capF T 0 (xs.take k) + min (max (xs.getD k 0) 0) (T - capF T 0 (xs.take k))))
        go_wp2_with fail
        refine (add_calls _ _ _ _ _ _ hxk.1 hxk.2 hbd.1 hbd.2 hT1 hc1 hf1 hc2).mono ?_
        rintro e w' ⟨rfl, rfl⟩
        go_wp2
        refine ⟨⟨k + 1, by omega, by go_num, ?_, hb.setCell (Nat.le_succ _) _⟩, by simp [intOf]; omega⟩
        rw [take_next xs k (by have := Hlen.out; omega), capF_snoc]
        exact htw'.out
      · go_wp2
        go_ret
        have e : xs.take k = xs := List.take_of_length_le (by have := Hlen.out; omega)
        exact ⟨ret_i (by rw [HV.out, e]), hb⟩

theorem capV_low {top : Int} (h : top < 0) (xs : List Int) : capV top xs = 0 := by
  have := capF_bounds (t := max top 0) xs 0 (by omega) (by omega)
  unfold capV
  omega

set_option maxRecDepth 100000 in
theorem rcap_calls (top : Int) (a : Option Addr) (len cap : Nat) (xs : List Int) (w : World) (h0 : -9223372036854775808 ≤ top) (h1 : top ≤ 9223372036854775807) (hl : len ≤ maxLen)
    (hx : AllInts xs) (hi : Ints .i64 w w.heap.size a len xs) :
    Calls Try.prog 15 #[.int .i64 top, .slice a len cap] w fun e w' => e = .returned (.int .i64 (capV top xs)) ∧ w = w' := by
  unfold maxLen at hl
  have Hlen := hidden hi.1
  have Hi := hidden hi
  clear hi
  by_cases ht : top < 0
  · have HV := hidden (capV_low ht xs)
    by_cases hz : 0 < len
    · go_enter Try.func15, Try.ntmps15
      go_wp2
      refine wp_loop_rounds 1 ?_
      rw [rounds_succ]
      go_wp2
      go_ret
      exact ⟨ret_i HV.out.symm, rfl⟩
    · obtain rfl : len = 0 := by omega
      go_enter Try.func15, Try.ntmps15
      go_wp2
      refine wp_loop_rounds 1 ?_
      rw [rounds_succ]
      go_wp2
      go_ret
      exact ⟨ret_i HV.out.symm, rfl⟩
  · have HV := hidden (show capV top xs = capF top 0 xs by unfold capV; rw [show max top 0 = top by omega])
    have ht0 : 0 ≤ top := by omega
    clear ht
    go_enter Try.func15, Try.ntmps15
    go_wp2
    go_loop [5, 6] (fun s i => ∃ k : Nat, k ≤ len ∧ i = .int .i64 k ∧ s = .int .i64 (capF top 0 (xs.take k))) (fun _ i => len - (intOf i).toNat)
    case atStart => exact ⟨0, Nat.zero_le _, rfl, rfl⟩
    case round =>
      obtain ⟨k, hk, rfl, rfl⟩ := hrel
      have hbd := capF_bounds (t := top) (xs.take k) 0 (by omega) ht0
      by_cases hlt : k < len
      · obtain ⟨b, off, rfl, hB, hcell⟩ := Hi.out.2 (by omega)
        have hcx := hcell k hlt
        have hxk := hx k (by have := Hlen.out; omega)
        have hs := hidden (show capF top 0 (xs.take (k + 1)) = capF top 0 (xs.take k) + min (max (xs.getD k 0) 0) (top - capF top 0 (xs.take k)) by rw [take_next xs k (by have := Hlen.out; omega), capF_snoc])
        clear hcell
        generalize capF top 0 (xs.take k) = s at *
        generalize xs.getD k 0 = x at *
        by_cases hA : top - s < x
        · go_wp2
          exact ⟨⟨k + 1, by omega, by go_num, by rw [hs.out]; congr 1; omega⟩, by simp [intOf]; omega⟩
        · by_cases hB : 0 < x
          · go_wp2
            exact ⟨⟨k + 1, by omega, by go_num, by rw [hs.out]; congr 1; omega⟩, by simp [intOf]; omega⟩
          · go_wp2
            exact ⟨⟨k + 1, by omega, by go_num, by rw [hs.out]; congr 1; omega⟩, by simp [intOf]; omega⟩
      · go_wp2
        go_ret
        have e : xs.take k = xs := List.take_of_length_le (by have := Hlen.out; omega)
        exact ⟨ret_i (by rw [HV.out, e]), rfl⟩
end Go.Proofs.Ytlciajdkjchmcaa
