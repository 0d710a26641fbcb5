/- Contracts of num.Show and the reference's Show. -/
import Derived.Test.YtlciajdkjchmcaaBase
namespace Go.Proofs.Ytlciajdkjchmcaa
open Go.RowKit

def decF : Nat → Nat → List Int
  | 0, _ => []
  | f + 1, n => if n < 10 then [48 + (n : Int)] else decF f (n / 10) ++ [48 + ((n % 10 : Nat) : Int)]
def dec (n : Nat) : List Int := decF (n + 1) n
def showV (n : Int) : List Int := if n < 0 then [] else dec n.toNat

theorem decF_fuel : ∀ (f g n : Nat), n < f → n < g → decF f n = decF g n := by
  intro f
  induction f with
  | zero => intro g n h; omega
  | succ f ih =>
    intro g n hf hg
    obtain ⟨g, rfl⟩ : ∃ g', g = g' + 1 := ⟨g - 1, by omega⟩
    unfold decF
    by_cases h : n < 10
    · rw [if_pos h, if_pos h]
    · rw [if_neg h, if_neg h, ih g (n / 10) (by omega) (by omega)]
theorem dec_small {n : Nat} (h : n < 10) : dec n = [48 + (n : Int)] := by unfold dec decF; rw [if_pos h]
theorem dec_great {n : Nat} (h : 10 ≤ n) : dec n = dec (n / 10) ++ [48 + ((n % 10 : Nat) : Int)] := by
  unfold dec
  rw [decF, if_neg (by omega), decF_fuel n (n / 10 + 1) (n / 10) (by omega) (by omega)]

/-- what is left to tell, what is told, and the place of the next digit -/
def Left (m0 m p : Nat) (L : List Int) : Prop := dec m0 = dec m ++ L ∧ L.length + p = 18 ∧ m * 10 ^ L.length ≤ m0
def Digits (w : World) (g p : Nat) (L : List Int) : Prop :=
  ∃ C : Array Value, w.heap[g]? = some (.cells C 39 (0, 0)) ∧ C.size = 19 ∧ ∀ j, j < L.length → C[p + 1 + j]? = some (.int .u8 (L.getD j 0))

theorem left_start (m0 : Nat) : Left m0 m0 18 [] := ⟨by simp, rfl, by simp⟩
theorem left_step {m0 m p : Nat} {L : List Int} (h : Left m0 m p L) (hm : 10 ≤ m) (h0 : m0 < 10 ^ 19) : 1 ≤ p ∧ Left m0 (m / 10) (p - 1) ((48 + ((m % 10 : Nat) : Int)) :: L) := by
  obtain ⟨h1, h2, h3⟩ := h
  have hp : 1 ≤ p := by
    rcases Nat.eq_zero_or_pos p with e | e
    · subst e
      have e18 : L.length = 18 := by omega
      rw [e18] at h3
      have : 10 * 10 ^ 18 ≤ m * 10 ^ 18 := Nat.mul_le_mul_right _ hm
      omega
    · exact e
  refine ⟨hp, ?_, by simp; omega, ?_⟩
  · rw [h1, dec_great hm]; simp
  · simp only [List.length_cons, Nat.pow_succ]
    have : m / 10 * (10 ^ L.length * 10) ≤ m * 10 ^ L.length := by
      rw [Nat.mul_comm (10 ^ L.length) 10, ← Nat.mul_assoc]
      exact Nat.mul_le_mul_right _ (Nat.div_mul_le_self m 10)
    omega
theorem left_end {m0 m p : Nat} {L : List Int} (h : Left m0 m p L) (hm : m < 10) : dec m0 = (48 + (m : Int)) :: L := by
  rw [h.1, dec_small hm]; rfl
theorem digits_cell {w : World} {g p : Nat} {L : List Int} (h : Digits w g p L) (hp : p < 19) : ∃ v, w.cell? ⟨g, p, none⟩ = some v := by
  obtain ⟨C, h1, h2, _⟩ := h
  exact ⟨C[p]'(by omega), by rw [cell_of_row w g p C _ _ h1]; simp [h2, hp]⟩
theorem digits_free {w : World} {g p : Nat} {L : List Int} (h : Digits w g p L) (i : Nat) : w.frozen? ⟨g, i, none⟩ = false := by
  obtain ⟨C, h1, _⟩ := h
  simp [World.frozen?, h1]
theorem digits_set {w : World} {g p : Nat} {L : List Int} (h : Digits w g p L) (d : Int) (hp : 1 ≤ p) (hp2 : p < 19) : Digits (w.setCell ⟨g, p, none⟩ (.int .u8 d)) g (p - 1) (d :: L) := by
  obtain ⟨C, h1, h2, h3⟩ := h
  refine ⟨C.setIfInBounds p (.int .u8 d), by simp [World.setCell, Array.getElem?_modify, h1], by simp [h2], fun j hj => ?_⟩
  rw [show p - 1 + 1 + j = p + j by omega, Array.getElem?_setIfInBounds]
  cases j with
  | zero => rw [if_pos (by omega), if_pos (by omega)]; rfl
  | succ j =>
    rw [if_neg (by omega)]
    have := h3 j (by simpa using hj)
    rw [show p + (j + 1) = p + 1 + j by omega, this]
    rfl
theorem digits_last {w : World} {g p : Nat} {L : List Int} (h : Digits w g p L) (d : Int) (hp2 : p < 19) (hl : L.length + p = 18) :
    ∀ i, i < 19 - p → (w.setCell ⟨g, p, none⟩ (.int .u8 d)).cell? ⟨g, p + i, none⟩ = some (.int .u8 ((d :: L).getD i 0)) := by
  obtain ⟨C, h1, h2, h3⟩ := h
  intro i hi
  have e : (w.setCell ⟨g, p, none⟩ (.int .u8 d)).heap[g]? = some (.cells (C.setIfInBounds p (.int .u8 d)) 39 (0, 0)) := by simp [World.setCell, Array.getElem?_modify, h1]
  rw [cell_of_row _ g (p + i) _ _ _ e, Array.getElem?_setIfInBounds]
  cases i with
  | zero => rw [if_pos (by omega), if_pos (by omega)]; rfl
  | succ j =>
    rw [if_neg (by omega)]
    have := h3 j (by omega)
    rw [show p + (j + 1) = p + 1 + j by omega, this]
    rfl

theorem arr_cut (w : World) (g p : Nat) (hp : p ≤ 18) : (Instr.sliceAt 39 (.pointer (some ⟨g, 0, none⟩)) (some (.int .i64 (p : Int))) none none).run Try.prog w = .ok (.slice (some ⟨g, p, none⟩) (19 - p) (19 - p)) w := by
  have e : Try.prog.arrayLen 39 = 19 := by kernel_rfl
  have e' : Try.prog.elem 39 = 5 := by kernel_rfl
  have es : ∀ W, (sizeOf 5).run Try.prog W = .ok 1 W := fun W => by kernel_rfl
  rw [run_sliceAt_array_l w 39 ⟨g, 0, none⟩ (by kernel_rfl) .i64 (p : Int) (by omega) (by rw [e]; omega), e, e', es]
  simp only [Result.andThen, slicedAt, Int.toNat_natCast]
  rw [if_neg (by omega), Addr.add_lit]
  simp
theorem digits_text {w : World} {g p : Nat} {L : List Int} (h : Digits w g p L) (d : Int) (hp : p ≤ 18) (hl : L.length + p = 18) :
    (convert 40 9 (.slice (some ⟨g, p, none⟩) (19 - p) (19 - p))).run Try.prog (w.setCell ⟨g, p, none⟩ (.int .u8 d)) = .ok (.string (strOfNums (d :: L))) (w.setCell ⟨g, p, none⟩ (.int .u8 d)) :=
  run_convert_bytes_arg _ 40 5 Try.underlying40 Try.underlying5 g p (19 - p) (19 - p) (d :: L) (by simp; omega) (digits_last h d (by omega) hl) 9 Try.underlying9

set_option maxRecDepth 100000 in
theorem show_calls (n : Int) (w : World) (h0 : -9223372036854775808 ≤ n) (h1 : n ≤ 9223372036854775807) :
    Calls Try.prog 9 #[.int .i64 n] w fun e w' => e = .returned (.string (strOfNums (showV n))) ∧ Below w.heap.size w w' := by
  by_cases hn : n < 0
  · go_enter Try.func9, Try.ntmps9
    go_wp2
    go_ret
    exact ⟨by rw [showV, if_pos hn]; rfl, Below.refl _ _⟩
  · obtain ⟨m0, rfl⟩ := Int.eq_ofNat_of_zero_le (show 0 ≤ n by omega)
    have hV : showV m0 = dec m0 := by rw [showV, if_neg hn]; rfl
    have HV := hidden hV
    clear hV
    go_enter Try.func9, Try.ntmps9
    go_wp2
    go_loopw [0, 4] (fun v i wr => ∃ (m p : Nat) (L : List Int), v = .int .i64 m ∧ i = .int .i64 p ∧ m ≤ m0 ∧ p ≤ 18 ∧ Left m0 m p L ∧ Digits wr w.heap.size p L ∧ Below w.heap.size w wr) (fun v _ _ => (intOf v).toNat)
    case atStart =>
      exact ⟨m0, 18, [], rfl, rfl, Nat.le_refl _, Nat.le_refl _, left_start m0, ⟨_, heap_alloc_new _ _, rfl, fun j hj => absurd hj (by simp)⟩, (Below.refl _ _).alloc (Nat.le_refl _) _⟩
    case round =>
      obtain ⟨m, p, L, rfl, rfl, hm, hp, hl, hd, hb⟩ := hrel
      obtain ⟨v, hc⟩ := digits_cell hd (show p < 19 by omega)
      have hf := digits_free hd p
      by_cases hlt : 9 < m
      · have hs := left_step hl (by omega) (by omega)
        have hd' := digits_set hd (48 + ((m % 10 : Nat) : Int)) hs.1 (by omega)
        have hp1 := hs.1
        have hs := hs.2
        go_wp2
        refine ⟨⟨m / 10, p - 1, (48 + ((m % 10 : Nat) : Int)) :: L, by go_num, by rw [Int.ofNat_sub hp1]; rfl, by omega, by omega, hs, hd', hb.setCell (Nat.le_refl _) _⟩, by simp [intOf]; omega⟩
      · have hq := hl.2.1
        have hcut := arr_cut (wr.setCell ⟨w.heap.size, p, none⟩ (.int .u8 (48 + (m : Int)))) w.heap.size p hp
        have htx := digits_text hd (48 + (m : Int)) hp hq
        have he := hidden (left_end hl (show m < 10 by omega))
        go_wp2
        go_ret
        exact ⟨ret_s (by rw [HV.out, he.out]), hb.setCell (Nat.le_refl _) _⟩

/-- what the reference's loop has yet to tell -/
def decR (m : Nat) : List Int := if m = 0 then [] else dec m
theorem dec_decR (m : Nat) : dec m = decR (m / 10) ++ [48 + ((m % 10 : Nat) : Int)] := by
  unfold decR
  by_cases h : m < 10
  · rw [if_pos (by omega), dec_small h, Nat.mod_eq_of_lt h]; rfl
  · rw [if_neg (by omega), dec_great (by omega)]
theorem decR_step {m : Nat} (h : 0 < m) : decR m = decR (m / 10) ++ [48 + ((m % 10 : Nat) : Int)] := by
  rw [← dec_decR]; unfold decR; rw [if_neg (by omega)]
theorem dec_len : ∀ (k n : Nat), n < 10 ^ (k + 1) → (dec n).length ≤ k + 1 := by
  intro k
  induction k with
  | zero => intro n h; rw [dec_small (by omega)]; simp
  | succ k ih =>
    intro n h
    by_cases hn : n < 10
    · rw [dec_small hn]; simp
    · rw [dec_great (by omega)]
      have := ih (n / 10) (by rw [Nat.pow_succ] at h; omega)
      simp
      omega
theorem one_text (w : World) (d : Int) : (convert 40 9 (.slice (some ⟨w.heap.size, 0, none⟩) 1 1)).run Try.prog (w.alloc (.cells #[.int .u8 d] 5)) = .ok (.string (strOfNums [d])) (w.alloc (.cells #[.int .u8 d] 5)) :=
  run_convert_bytes_arg _ 40 5 Try.underlying40 Try.underlying5 w.heap.size 0 1 1 [d] rfl (by
    intro i hi
    match i, hi with
    | 0, _ => simp) 9 Try.underlying9

theorem strOf_cons (d : Int) (L : List Int) : strOfNums [d] ++ strOfNums L = strOfNums (d :: L) := by
  apply Go.WideShapes.bytes_inj
  simp [strOfNums, ByteArray.data_append]

set_option maxRecDepth 100000 in
theorem rshow_calls (n : Int) (w : World) (h0 : -9223372036854775808 ≤ n) (h1 : n ≤ 9223372036854775807) :
    Calls Try.prog 10 #[.int .i64 n] w fun e w' => e = .returned (.string (strOfNums (showV n))) ∧ Below w.heap.size w w' := by
  by_cases hn : n < 0
  · go_enter Try.func10, Try.ntmps10
    go_wp2
    go_ret
    exact ⟨by rw [showV, if_pos hn]; rfl, Below.refl _ _⟩
  · obtain ⟨m0, rfl⟩ := Int.eq_ofNat_of_zero_le (show 0 ≤ n by omega)
    have hV : showV m0 = dec m0 := by rw [showV, if_neg hn]; rfl
    have HV := hidden hV
    clear hV
    have htx := one_text w (48 + (m0 : Int) % 10)
    go_enter Try.func10, Try.ntmps10
    go_wp2
    go_loopw [0, 3] (fun v s wr => ∃ (m : Nat) (L : List Int), v = .int .i64 m ∧ s = .string (strOfNums L) ∧ m ≤ m0 ∧ dec m0 = decR m ++ L ∧ Below w.heap.size w wr) (fun v _ _ => (intOf v).toNat)
    case atStart =>
      exact ⟨m0 / 10, _, by go_num, rfl, by omega, dec_decR m0, (Below.refl _ _).alloc (Nat.le_refl _) _⟩
    case round =>
      obtain ⟨m, L, rfl, rfl, hm, hl, hb⟩ := hrel
      have hz : (strOfNums L).size ≤ 19 := by
        have h1 := dec_len 18 m0 (by omega)
        rw [hl, List.length_append] at h1
        rw [strOfNums_size]
        omega
      have HL := hidden hl
      clear hl
      by_cases hlt : 0 < m
      · have htx := one_text wr (48 + (m : Int) % 10)
        have hz1 : (strOfNums [48 + (m : Int) % 10]).size ≤ 1 := by rw [strOfNums_size]; simp
        go_wp2
        refine ⟨⟨m / 10, (48 + ((m % 10 : Nat) : Int)) :: L, by go_num, ?_, by omega, ?_, hb.alloc hb.size _⟩, by simp [intOf]; omega⟩
        · exact congrArg Value.string (strOf_cons _ _)
        · rw [HL.out, decR_step hlt]; simp
      · go_wp2
        go_ret
        have hl := HL.out
        rw [show decR m = [] by unfold decR; rw [if_pos (by omega)]] at hl
        exact ⟨ret_s (by rw [HV.out, hl]; rfl), hb⟩
end Go.Proofs.Ytlciajdkjchmcaa
