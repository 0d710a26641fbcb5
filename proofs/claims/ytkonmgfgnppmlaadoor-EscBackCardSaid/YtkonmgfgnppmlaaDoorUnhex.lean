/- Contract of num.Unhex (and the mathematics of the reference's). -/
import Derived.Test.YtkonmgfgnppmlaaDoorHex
import Derived.Lib.Bytealg
namespace Go.Proofs.YtkonmgfgnppmlaaDoor
open Go.RowKit

def hexL : List UInt8 := [48, 49, 50, 51, 52, 53, 54, 55, 56, 57, 97, 98, 99, 100, 101, 102]
def hexS (i : Int) : ByteArray := strOfNums [hexDigit (i / 16), hexDigit (i % 16)]
def digOf (c : UInt8) : Int := Lib.indexByte hexL c

theorem digOf_all : ∀ c : UInt8, (-1 ≤ digOf c ∧ digOf c < 16) ∧ (0 ≤ digOf c → UInt8.ofNat (hexDigit (digOf c)).toNat = c) ∧ (digOf c < 0 → ∀ i : Fin 16, UInt8.ofNat (hexDigit i.val).toNat ≠ c) := by
  have h : ∀ i : Fin 256, (-1 ≤ digOf (UInt8.ofNat i.val) ∧ digOf (UInt8.ofNat i.val) < 16) ∧ (0 ≤ digOf (UInt8.ofNat i.val) → UInt8.ofNat (hexDigit (digOf (UInt8.ofNat i.val))).toNat = UInt8.ofNat i.val) ∧
      (digOf (UInt8.ofNat i.val) < 0 → ∀ j : Fin 16, UInt8.ofNat (hexDigit j.val).toNat ≠ UInt8.ofNat i.val) := by decide +kernel
  intro c
  have := h ⟨c.toNat, c.toNat_lt⟩
  simpa using this
theorem digOf_hex : ∀ i : Fin 16, digOf (UInt8.ofNat (hexDigit i.val).toNat) = i.val := by decide +kernel

/-- the byte of a text, and whether there is one -/
def unhexV (s : ByteArray) : Int × Bool :=
  match s.data.toList with
  | [a, b] => if 0 ≤ digOf a ∧ 0 ≤ digOf b then (digOf a * 16 + digOf b, true) else (0, false)
  | _ => (0, false)

theorem index_calls (s : ByteArray) (c : Int) (w : World) :
    Calls Tryd.prog 36 #[.string s, .int .u8 c] w fun e w' => e = .returned (.int .i64 (Lib.indexByte s.data.toList c.toNat.toUInt8)) ∧ w = w' := by
  go_enter Tryd.func36, Tryd.ntmps36
  go_wp2
  rw [run_callFunc_extern Tryd.func39 (by kernel_rfl) (by kernel_rfl) (by kernel_rfl) (e := Extern.BytealgIndexByte.indexByte) (by kernel_rfl), Lib.run_indexByteString]
  simp only [Result.andThen]
  rw [Oper.upon_value]
  go_wp2
  go_ret
  exact ⟨rfl, rfl⟩
theorem index_hex (a : UInt8) (w : World) :
    Calls Tryd.prog 36 #[.string ⟨#[48, 49, 50, 51, 52, 53, 54, 55, 56, 57, 97, 98, 99, 100, 101, 102]⟩, .int .u8 a.toNat] w fun e w' => e = .returned (.int .i64 (digOf a)) ∧ w = w' := by
  have h := index_calls ⟨#[48, 49, 50, 51, 52, 53, 54, 55, 56, 57, 97, 98, 99, 100, 101, 102]⟩ a.toNat w
  have e : (a.toNat : Int).toNat.toUInt8 = a := by simp
  rw [e] at h
  exact h

theorem or_bits : ∀ (x y : Fin 16), bits .or .i64 ((x.val : Int) * 16) (y.val : Int) % 256 = (x.val : Int) * 16 + y.val := by decide +kernel

theorem two_bytes {s : ByteArray} (h : s.size = 2) : ∃ a b, s = ⟨#[a, b]⟩ := by
  obtain ⟨⟨l⟩⟩ := s
  match l, h with
  | [a, b], _ => exact ⟨a, b, rfl⟩
theorem not_two {s : ByteArray} (h : s.size ≠ 2) : unhexV s = (0, false) := by
  obtain ⟨⟨l⟩⟩ := s
  unfold unhexV
  split
  · rename_i a b e
    simp at e
    subst e
    exact absurd rfl h
  · rfl

theorem unhex_calls (s : ByteArray) (w : World) :
    Calls Tryd.prog 34 #[.string s] w fun e w' => e = .returned (.tuple #[.int .u8 (unhexV s).1, .bool (unhexV s).2]) ∧ w = w' := by
  by_cases hs : s.size = 2
  · obtain ⟨a, b, rfl⟩ := two_bytes hs
    clear hs
    have ha := (digOf_all a).1
    have hb := (digOf_all b).1
    have HU : unhexV ⟨#[a, b]⟩ = if 0 ≤ digOf a ∧ 0 ≤ digOf b then (digOf a * 16 + digOf b, true) else (0, false) := rfl
    generalize unhexV ⟨#[a, b]⟩ = u at HU ⊢
    have hU := hidden HU
    clear HU
    by_cases h0 : 0 ≤ digOf a
    · by_cases h1 : 0 ≤ digOf b
      all_goals
        go_enter Tryd.func34, Tryd.ntmps34
        go_wp2_with fail
        refine (index_hex a _).mono ?_
        rintro e w' ⟨rfl, rfl⟩
        go_wp2_with fail
        refine (index_hex b _).mono ?_
        rintro e w' ⟨rfl, rfl⟩
        go_wp2
        go_ret2
      · refine ⟨?_, rfl⟩
        rw [hU.out, if_pos ⟨h0, h1⟩]
        have := or_bits ⟨(digOf a).toNat, by omega⟩ ⟨(digOf b).toNat, by omega⟩
        simp only [Int.toNat_of_nonneg h0, Int.toNat_of_nonneg h1] at this
        exact ret_ib this rfl
      · refine ⟨?_, rfl⟩
        rw [hU.out, if_neg (by omega)]
        rfl
    · go_enter Tryd.func34, Tryd.ntmps34
      go_wp2_with fail
      refine (index_hex a _).mono ?_
      rintro e w' ⟨rfl, rfl⟩
      go_wp2_with fail
      refine (index_hex b _).mono ?_
      rintro e w' ⟨rfl, rfl⟩
      go_wp2
      go_ret2
      refine ⟨?_, rfl⟩
      rw [hU.out, if_neg (by omega)]
      rfl
  · have hne : ((s.size : Int) != 2) = true := by simp; omega
    have hU := hidden (not_two hs)
    clear hs
    go_enter Tryd.func34, Tryd.ntmps34
    go_wp2
    go_ret2
    refine ⟨?_, rfl⟩
    rw [hU.out]
    rfl
theorem hexS_data (i : Int) : (hexS i).data.toList = [UInt8.ofNat (hexDigit (i / 16)).toNat, UInt8.ofNat (hexDigit (i % 16)).toNat] := rfl
theorem unhexV_hexS (i : Int) (h0 : 0 ≤ i) (h1 : i < 256) : unhexV (hexS i) = (i, true) := by
  have a := digOf_hex ⟨(i / 16).toNat, by omega⟩
  have b := digOf_hex ⟨(i % 16).toNat, by omega⟩
  simp only [Int.toNat_of_nonneg (show 0 ≤ i / 16 by omega), Int.toNat_of_nonneg (show 0 ≤ i % 16 by omega)] at a b
  unfold unhexV
  rw [hexS_data]
  simp only [a, b]
  rw [if_pos (by omega)]
  simp
  omega
theorem unhexV_none (s : ByteArray) (h : ∀ j : Nat, j < 256 → hexS j ≠ s) : unhexV s = (0, false) := by
  unfold unhexV
  split
  · rename_i a b e
    split
    · rename_i hd
      have ha := digOf_all a
      have hb := digOf_all b
      have h0 := ha.2.1 hd.1
      have h1 := hb.2.1 hd.2
      refine absurd ?_ (h (digOf a * 16 + digOf b).toNat (by omega))
      apply Go.WideShapes.bytes_inj
      rw [hexS_data, e, Int.toNat_of_nonneg (by omega)]
      rw [show (digOf a * 16 + digOf b) / 16 = digOf a by omega, show (digOf a * 16 + digOf b) % 16 = digOf b by omega, h0, h1]
    · rfl
  · rfl
end Go.Proofs.YtkonmgfgnppmlaaDoor
