/- Contracts of place.Lines, place.At, and the reference's. -/
import Derived.Test.YtekpbhfbojijiaaPlaceMove
import Derived.Test.YtekpbhfbojijiaaPlaceMath
import Derived.Lib.Strings
namespace Go.Proofs.Ytekpbhfbojijiaa
open Go.RowKit

theorem byte_at (s : ByteArray) (k : Nat) (h : k < s.size) : s.data.toList[k]? = some s[k] := by
  rw [List.getElem?_eq_getElem (by simpa using h)]; rfl
theorem byte_is {s : ByteArray} {k : Nat} (h : k < s.size) (e : (s[k].toNat : Int) = 10) : s.data.toList[k]? = some 10 := by
  rw [byte_at s k h]
  congr 1
  exact UInt8.toNat_inj.1 (by simp; omega)
theorem byte_not {s : ByteArray} {k : Nat} (h : k < s.size) (e : ¬ (s[k].toNat : Int) = 10) : s.data.toList[k]? ≠ some 10 := by
  rw [byte_at s k h]
  intro h'
  apply e
  rw [Option.some.inj h']
  rfl
theorem list_len (s : ByteArray) : s.data.toList.length = s.size := by simp

set_option maxHeartbeats 1000000 in
set_option maxRecDepth 100000 in
theorem count_calls (s : ByteArray) (c : UInt8) (w : World) :
    Calls Try.prog 29 #[.string s, .string ⟨#[c]⟩] w fun e w' => e = .returned (.int .i64 (Lib.countByte s.data.toList c)) ∧ w = w' := by
  go_enter Try.func29, Try.ntmps29
  go_wp2
  rw [run_callFunc_extern Try.func33 (by kernel_rfl) (by kernel_rfl) (by kernel_rfl) (e := Extern.BytealgCount.count) (by kernel_rfl), Lib.run_countString]
  simp only [Result.andThen]
  rw [Oper.upon_value]
  go_wp2
  go_ret
  exact ⟨rfl, rfl⟩
theorem lines_calls (s : ByteArray) (w : World) (hs : s.size ≤ 1000000) :
    Calls Try.prog 15 #[.string s] w fun e w' => e = .returned (.int .i64 ((s.data.toList.count 10 + 1 : Nat) : Int)) ∧ w = w' := by
  have hc : s.data.toList.count 10 ≤ s.size := by rw [← list_len s]; exact List.count_le_length
  have h1 : Hid (Lib.countByte s.data.toList 10 = s.data.toList.count 10) := hidden rfl
  generalize hn : s.data.toList.count 10 = n at *
  clear hn
  go_enter Try.func15, Try.ntmps15
  go_wp2_with fail
  refine (count_calls s 10 _).mono ?_
  rintro e w' ⟨rfl, rfl⟩
  rw [h1.out]
  go_wp2
  go_ret
  exact ⟨ret_i (by omega), rfl⟩
theorem begins_le {l : List UInt8} {x : Nat} (hx : x ≤ l.length) : begins l x ≤ x := by
  obtain ⟨a, b, h2, h3, h4⟩ := cut_of l 0 x (by omega) (by omega)
  rw [(begins_cut h2 h3 h4).2]
  exact h3
set_option maxRecDepth 100000 in
theorem last_calls (s : ByteArray) (w : World) (hs : s.size ≤ 1000000) :
    Calls Try.prog 27 #[.string s, .int .u8 10] w fun e w' => e = .returned (.int .i64 ((begins s.data.toList s.size : Int) - 1)) ∧ w = w' := by
  have HB := hidden (fun b => begins_of (l := s.data.toList) (x := s.size) (b := b) (by simp))
  go_enter Try.func27, Try.ntmps27
  go_wp2
  go_loop [5] (fun i => ∃ k : Nat, k ≤ s.size ∧ i = .int .i64 ((k : Int) - 1) ∧ ∀ j, k ≤ j → j < s.size → s.data.toList[j]? ≠ some 10) (fun i => (intOf i + 1).toNat)
  case atStart => exact ⟨s.size, Nat.le_refl _, by go_num, fun j h1 h2 => by omega⟩
  case round =>
    obtain ⟨k, hk, rfl, hj⟩ := hrel
    have HJ := hidden hj
    clear hj
    by_cases h0 : k = 0
    · subst h0
      have hr := hidden (HB.out 0 (by omega) (.inl rfl) fun i _ hi => HJ.out i (by omega) hi)
      go_wp2
      go_ret
      refine ⟨ret_i ?_, rfl⟩
      rw [hr.out]
      rfl
    · obtain ⟨m, rfl⟩ : ∃ m, k = m + 1 := ⟨k - 1, by omega⟩
      have e1 : ((m + 1 : Nat) : Int) - 1 = (m : Int) := by omega
      rw [e1]
      have hm : m < s.size := by omega
      by_cases hc : ((s[m].toNat : Int) = 10)
      · have hr := hidden (HB.out (m + 1) (by omega) (.inr (byte_is hm hc)) fun i hi h2 => HJ.out i hi h2)
        have hcb : ((s[m].toNat : Int) == 10) = true := by simpa using hc
        clear hc
        go_wp2
        go_ret
        refine ⟨ret_i ?_, rfl⟩
        rw [hr.out]
        omega
      · have hn := hidden (byte_not hm hc)
        have hcb : ((s[m].toNat : Int) == 10) = false := by simpa using hc
        clear hc
        go_wp2
        refine ⟨⟨m, by omega, rfl, fun j h1 h2 => ?_⟩, by simp [intOf]⟩
        by_cases e : j = m
        · subst e
          exact hn.out
        · exact HJ.out j (by omega) h2

/-- how many lines the first bytes have, as it goes on -/
theorem take_step (l : List UInt8) (k : Nat) : (l.take (k + 1)).count 10 = (l.take k).count 10 + (if l[k]? = some 10 then 1 else 0) := by
  rw [List.take_add_one, List.count_append]
  cases h : l[k]? with
  | none => rfl
  | some c =>
    by_cases hc : c = 10
    · subst hc; rfl
    · simp [hc]
set_option maxRecDepth 100000 in
theorem rlines_calls (s : ByteArray) (w : World) (hs : s.size ≤ 1000000) :
    Calls Try.prog 16 #[.string s] w fun e w' => e = .returned (.int .i64 ((s.data.toList.count 10 + 1 : Nat) : Int)) ∧ w = w' := by
  have HT := hidden (take_step s.data.toList)
  have HC := hidden (fun k => show (s.data.toList.take k).count 10 ≤ s.size by rw [← list_len s]; exact Nat.le_trans List.count_le_length (by simp; omega))
  have HF := hidden (show s.data.toList.take s.size = s.data.toList by rw [List.take_of_length_le (by simp)])
  go_enter Try.func16, Try.ntmps16
  go_wp2
  go_loop [3, 4] (fun n i => ∃ k c : Nat, k ≤ s.size ∧ i = .int .i64 k ∧ n = .int .i64 (c + 1 : Nat) ∧ c = (s.data.toList.take k).count 10) (fun _ i => s.size - (intOf i).toNat)
  case atStart => exact ⟨0, 0, by omega, rfl, rfl, rfl⟩
  case round =>
    obtain ⟨k, c, hk, rfl, rfl, hc⟩ := hrel
    have hcs := HC.out k
    rw [← hc] at hcs
    have Hc := hidden hc
    clear hc
    by_cases hlt : k < s.size
    · by_cases h10 : ((s[k].toNat : Int) = 10)
      · have hn := hidden (HT.out k)
        have hi := hidden (byte_is hlt h10)
        have hcb : ((s[k].toNat : Int) == 10) = true := by simpa using h10
        clear h10
        go_wp2
        refine ⟨⟨k + 1, c + 1, by omega, by go_num, by go_num, ?_⟩, by simp [intOf]; omega⟩
        rw [hn.out, if_pos hi.out, ← Hc.out]
      · have hn := hidden (HT.out k)
        have hi := hidden (byte_not hlt h10)
        have hcb : ((s[k].toNat : Int) == 10) = false := by simpa using h10
        clear h10
        go_wp2
        refine ⟨⟨k + 1, c, by omega, by go_num, rfl, ?_⟩, by simp [intOf]; omega⟩
        rw [hn.out, if_neg hi.out, ← Hc.out, Nat.add_zero]
    · obtain rfl : k = s.size := by omega
      go_wp2
      go_ret
      refine ⟨ret_i ?_, rfl⟩
      rw [Hc.out, HF.out]
      simp

def spotR (l : List UInt8) (x : Nat) : Ending := .returned (.tuple #[.agg #[.int .i64 (lineAt l x), .int .i64 (colAt l x)], .bool true])
def spotNone : Ending := .returned (.tuple #[.agg #[.int .i64 0, .int .i64 0], .bool false])
theorem at_out (s : ByteArray) (x : Int) (w : World) (h : x < 0 ∨ (s.size : Int) < x) :
    Calls Try.prog 9 #[.string s, .int .i64 x] w fun e w' => e = spotNone ∧ Below w.heap.size w w' := by
  rcases h with h | h
  all_goals
    go_enter Try.func9, Try.ntmps9
    go_wp2
    exact ret_pair_tmp (t := 23) Try.results9 rfl rfl rfl (PairAt.made (by simp)) Try.underlying23 (by kernel_rfl) ⟨rfl, by go_grown⟩
theorem rat_out (s : ByteArray) (x : Int) (w : World) (h : x < 0 ∨ (s.size : Int) < x) :
    Calls Try.prog 10 #[.string s, .int .i64 x] w fun e w' => e = spotNone ∧ Below w.heap.size w w' := by
  rcases h with h | h
  all_goals
    go_enter Try.func10, Try.ntmps10
    go_wp2
    exact ret_pair_tmp (t := 23) Try.results10 rfl rfl rfl (PairAt.made (by simp)) Try.underlying23 (by kernel_rfl) ⟨rfl, by go_grown⟩
theorem part_list (s : ByteArray) (a b : Nat) : (s.extract a b).data.toList = (s.data.toList.drop a).take (b - a) := by
  simp [List.extract_eq_take_drop]
theorem part_size (s : ByteArray) (a b : Nat) (h : b ≤ s.size) : (s.extract a b).size = b - a := by
  simp; omega
theorem begins_part {l : List UInt8} {x : Nat} (hx : x ≤ l.length) : begins (l.take x) x = begins l x := by
  obtain ⟨a, b, h2, h3, h4⟩ := cut_of l 0 x (by omega) (by omega)
  have k := cut_at l 0 _ a b h2
  rw [(begins_cut h2 h3 h4).2]
  refine begins_of (by simp; omega) h3 ?_ fun i h5 h6 => ?_
  · rcases k.start with g | ⟨g0, g⟩
    · exact .inl g
    · right
      rw [List.getElem?_take, if_pos (by omega)]
      simpa using g
  · rw [List.getElem?_take, if_pos h6]
    simpa using k.none i h5 (by omega)
theorem lines_part (s : ByteArray) (x : Nat) (w : World) (hs : s.size ≤ 1000000) (h : x ≤ s.size) :
    Calls Try.prog 15 #[.string (s.extract 0 x)] w fun e w' => e = .returned (.int .i64 (lineAt s.data.toList x)) ∧ w = w' := by
  have := lines_calls (s.extract 0 x) w (by rw [part_size s 0 x h]; omega)
  rwa [part_list, Nat.sub_zero, List.drop_zero] at this
theorem rlines_part (s : ByteArray) (x : Nat) (w : World) (hs : s.size ≤ 1000000) (h : x ≤ s.size) :
    Calls Try.prog 16 #[.string (s.extract 0 x)] w fun e w' => e = .returned (.int .i64 (lineAt s.data.toList x)) ∧ w = w' := by
  have := rlines_calls (s.extract 0 x) w (by rw [part_size s 0 x h]; omega)
  rwa [part_list, Nat.sub_zero, List.drop_zero] at this
theorem last_part (s : ByteArray) (x : Nat) (w : World) (hs : s.size ≤ 1000000) (h : x ≤ s.size) :
    Calls Try.prog 27 #[.string (s.extract 0 x), .int .u8 10] w fun e w' => e = .returned (.int .i64 ((begins s.data.toList x : Int) - 1)) ∧ w = w' := by
  have := last_calls (s.extract 0 x) w (by rw [part_size s 0 x h]; omega)
  rwa [part_list, part_size s 0 x h, Nat.sub_zero, List.drop_zero, begins_part (by simpa using h)] at this
theorem spot_eq {l : List UInt8} {x : Nat} {a b : Int} (ha : a = lineAt l x) (hb : b = colAt l x) : Ending.returned (.tuple #[.agg #[.int .i64 a, .int .i64 b], .bool true]) = spotR l x := by
  rw [ha, hb]
  rfl
theorem at_calls (s : ByteArray) (x : Nat) (w : World) (hs : s.size ≤ 1000000) (h : x ≤ s.size) :
    Calls Try.prog 9 #[.string s, .int .i64 x] w fun e w' => e = spotR s.data.toList x ∧ Below w.heap.size w w' := by
  have hb := begins_le (l := s.data.toList) (x := x) (by simpa using h)
  have hL : lineAt s.data.toList x ≤ 1000001 := by
    unfold lineAt
    have : (s.data.toList.take x).count 10 ≤ (s.data.toList.take x).length := List.count_le_length
    simp at this
    omega
  have hc := hidden (fun a b => spot_eq (l := s.data.toList) (x := x) (a := a) (b := b))
  have hC : colAt s.data.toList x = x - begins s.data.toList x + 1 := rfl
  have HL := fun W => lines_part s x W hs h
  have HB := fun W => last_part s x W hs h
  generalize spotR s.data.toList x = R at *
  generalize begins s.data.toList x = g at *
  generalize lineAt s.data.toList x = L at *
  generalize colAt s.data.toList x = C at *
  have hl := hidden HL
  have hlast := hidden HB
  clear HL HB
  go_enter Try.func9, Try.ntmps9
  go_wp2_with fail
  refine (hl.out _).mono ?_
  rintro e w' ⟨rfl, rfl⟩
  go_wp2_with fail
  refine (hlast.out _).mono ?_
  rintro e w' ⟨rfl, rfl⟩
  go_wp2
  exact ret_pair_tmp (t := 23) Try.results9 rfl rfl rfl (PairAt.made (by simp)) Try.underlying23 (by kernel_rfl) ⟨hc.out _ _ rfl (by omega), by go_grown⟩
theorem byte_at_eq {s : ByteArray} {m : Nat} (h : m < s.size) (e : s.data.toList[m]? = some 10) : (s[m].toNat : Int) = 10 := by
  rw [byte_at s m h] at e
  rw [Option.some.inj e]
  rfl
set_option maxRecDepth 100000 in
theorem rat_calls (s : ByteArray) (x : Nat) (w : World) (hs : s.size ≤ 1000000) (h : x ≤ s.size) :
    Calls Try.prog 10 #[.string s, .int .i64 x] w fun e w' => e = spotR s.data.toList x ∧ Below w.heap.size w w' := by
  have HB := hidden (fun b => begins_of (l := s.data.toList) (x := x) (b := b) (by simpa using h))
  have hL : lineAt s.data.toList x ≤ 1000001 := by
    unfold lineAt
    have : (s.data.toList.take x).count 10 ≤ (s.data.toList.take x).length := List.count_le_length
    simp at this
    omega
  have hc := hidden (fun a b => spot_eq (l := s.data.toList) (x := x) (a := a) (b := b))
  have hC := hidden (show colAt s.data.toList x = x - begins s.data.toList x + 1 from rfl)
  have HL := fun W => rlines_part s x W hs h
  generalize spotR s.data.toList x = R at *
  generalize lineAt s.data.toList x = L at *
  have hl := hidden HL
  clear HL
  go_enter Try.func10, Try.ntmps10
  go_wp2
  go_loop [6] (fun i => ∃ k : Nat, k ≤ x ∧ i = .int .i64 k ∧ ∀ j, k ≤ j → j < x → s.data.toList[j]? ≠ some 10) (fun i => (intOf i).toNat)
  case atStart => exact ⟨x, Nat.le_refl _, rfl, fun j h1 h2 => by omega⟩
  case round =>
    obtain ⟨k, hk, rfl, hj⟩ := hrel
    have HJ := hidden hj
    clear hj
    by_cases h0 : k = 0
    · subst h0
      have hr := hidden (HB.out 0 (by omega) (.inl rfl) fun i _ hi => HJ.out i (by omega) hi)
      have hC' := hC.out
      rw [hr.out] at hC'
      have hC2 := hidden hC'
      clear hC'
      go_wp2_with fail
      refine (hl.out _).mono ?_
      rintro e w' ⟨rfl, rfl⟩
      go_wp2
      exact ret_pair_tmp (t := 23) Try.results10 rfl rfl rfl (PairAt.made (by simp)) Try.underlying23 (by kernel_rfl) ⟨hc.out _ _ rfl (by rw [hC2.out]; omega), by go_grown⟩
    · obtain ⟨m, rfl⟩ : ∃ m, k = m + 1 := ⟨k - 1, by omega⟩
      have hm : m < s.size := by omega
      by_cases hc10 : ((s[m].toNat : Int) = 10)
      · have hr := hidden (HB.out (m + 1) (by omega) (.inr (byte_is hm hc10)) fun i hi h2 => HJ.out i hi h2)
        have hcb : ((s[m].toNat : Int) != 10) = false := by simpa using hc10
        have hC' := hC.out
        rw [hr.out] at hC'
        have hC2 := hidden hC'
        clear hC' hc10
        go_wp2_with fail
        refine (hl.out _).mono ?_
        rintro e w' ⟨rfl, rfl⟩
        go_wp2
        exact ret_pair_tmp (t := 23) Try.results10 rfl rfl rfl (PairAt.made (by simp)) Try.underlying23 (by kernel_rfl) ⟨hc.out _ _ rfl (by rw [hC2.out]; omega), by go_grown⟩
      · have hn := hidden (byte_not hm hc10)
        have hcb : ((s[m].toNat : Int) != 10) = true := by simpa using hc10
        clear hc10
        go_wp2
        refine ⟨⟨m, by omega, by go_num, fun j h1 h2 => ?_⟩, by simp [intOf]⟩
        by_cases e : j = m
        · subst e
          exact hn.out
        · exact HJ.out j (by omega) h2
end Go.Proofs.Ytekpbhfbojijiaa
