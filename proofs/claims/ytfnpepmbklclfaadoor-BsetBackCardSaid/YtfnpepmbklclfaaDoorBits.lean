/- Contracts of math/bits.OnesCount64 and math/bits.TrailingZeros64 (the table of the second as it is laid). -/
import Derived.Test.YtfnpepmbklclfaaDoorBitMath
import Derived.Laws.Bits64b
import Derived.Handy
import Derived.Laws.Bits128
import Derived.Laws.BitsLemmas
namespace Go.Proofs.YtfnpepmbklclfaaDoor
open Go.RowKit

/-- the table of trailing zeros, as its initialiser lays it -/
def Tab (w : World) : Prop := ∀ j, j < 64 → w.cell? ⟨0, j, none⟩ = some (.int .u8 (Lib.deBruijn64tab.getD j 0 : Nat))
theorem Tab.below {w w' : World} (h : Tab w) (hb : Below w.heap.size w w') : Tab w' := fun j hj => (hb.cell (p := ⟨_, j, none⟩) (cell_lt (h j hj))).trans (h j hj)
theorem Tab.drew {w : World} (h : Tab w) : Tab w.drew := h

theorem tz_key (x : Nat) (hx : x < 18446744073709551616) (h0 : x ≠ 0) :
    IntKind.u64.wrap (bits .and .u64 (x : Int) (IntKind.u64.wrap (-(x : Int))) * 285870213051353865) / 288230376151711744 = ((2 ^ Lib.ctz 64 x * 285870213051353865 % 18446744073709551616 / 288230376151711744 : Nat) : Int) := by
  have e1 : IntKind.u64.wrap (-(x : Int)) = ((18446744073709551616 - x : Nat) : Int) := by rw [IntKind.wrap_u64]; omega
  have hl := (Lib.lowest_bit 64 x h0 hx).1
  rw [e1, u64_and_nat x _ hx (by omega), show (18446744073709551616 : Nat) = 2 ^ 64 from rfl, hl, IntKind.wrap_u64]
  generalize 2 ^ Lib.ctz 64 x = y
  omega

theorem tz_core (x k idx : Nat) (w : World) (hx0 : ((x : Int) == 0) = false)
    (key : IntKind.u64.wrap (bits .and .u64 (x : Int) (IntKind.u64.wrap (-(x : Int))) * 285870213051353865) / 288230376151711744 = (idx : Int))
    (hi : idx < 64) (hk : k < 64) (hcell : w.cell? ⟨0, idx, none⟩ = some (.int .u8 k)) :
    Calls Tryd.prog 32 #[.int .u64 x] w fun e w' => e = .returned (.int .i64 k) ∧ w = w' := by
  go_enter Tryd.func32, Tryd.ntmps32
  go_wp2_with (simp only [key])
  go_ret
  exact ⟨rfl, rfl⟩
theorem tz_calls (x : Nat) (w : World) (hx : x < 18446744073709551616) (h0 : x ≠ 0) (ht : Tab w) :
    Calls Tryd.prog 32 #[.int .u64 x] w fun e w' => e = .returned (.int .i64 (Lib.ctz 64 x)) ∧ w = w' := by
  have hk := (Lib.lowest_bit 64 x h0 hx).2
  obtain ⟨hi, htab⟩ := Lib.deBruijn64_at _ hk
  have hc := ht _ hi
  rw [htab] at hc
  exact tz_core x _ _ w (by simp; omega) (tz_key x hx h0) hi hk hc

theorem and_lit {X M : Int} {x m : Nat} (hX : X = x) (hM : M = m) (hx : x < 18446744073709551616) (hm : m < 18446744073709551616) : bits .and .u64 X M = ((x &&& m : Nat) : Int) := by
  rw [hX, hM]
  exact u64_and_nat x m hx hm
theorem wrap_low (c : Nat) : IntKind.i64.wrap (c : Int) % 128 = ((c % 128 : Nat) : Int) := by
  rw [IntKind.wrap_i64]
  omega
theorem wrap_nat {X : Int} {x y : Nat} (hX : X = x) (hy : y = x % 18446744073709551616) : IntKind.u64.wrap X = (y : Int) := by
  rw [hX, hy, IntKind.wrap_u64]
  omega
/-- the steps of the count, each as the program reckons it -/
theorem ones_keys (x : Nat) (hx : x < 18446744073709551616) : ∃ y z n a b c : Nat,
    IntKind.u64.wrap (bits .and .u64 ((x : Int) / 2) 6148914691236517205 + bits .and .u64 (x : Int) 6148914691236517205) = (y : Int) ∧
    IntKind.u64.wrap (bits .and .u64 ((y : Int) / 4) 3689348814741910323 + bits .and .u64 (y : Int) 3689348814741910323) = (z : Int) ∧
    bits .and .u64 (IntKind.u64.wrap ((z : Int) / 16 + (z : Int))) 1085102592571150095 = (n : Int) ∧
    IntKind.u64.wrap ((n : Int) + (n : Int) / 256) = (a : Int) ∧ IntKind.u64.wrap ((a : Int) + (a : Int) / 65536) = (b : Int) ∧ IntKind.u64.wrap ((b : Int) + (b : Int) / 4294967296) = (c : Int) ∧
    bits .and .i64 (IntKind.i64.wrap (c : Int)) 127 = (pop 64 x : Int) := by
  obtain ⟨y, hy⟩ : ∃ y, y = (x / 2 &&& 6148914691236517205) + (x &&& 6148914691236517205) := ⟨_, rfl⟩
  obtain ⟨z, hz⟩ : ∃ z, z = (y / 4 &&& 3689348814741910323) + (y &&& 3689348814741910323) := ⟨_, rfl⟩
  obtain ⟨ly, lz, hn⟩ := three_steps x hx y z hy hz
  have hlen : ((bytes8 x).map (pop 8)).length = 8 := rfl
  have hle : ∀ l ∈ (bytes8 x).map (pop 8), l ≤ 8 := by
    intro l hl
    obtain ⟨a, _, rfl⟩ := List.mem_map.1 hl
    exact pop_le 8 a
  rw [pop_bytes x]
  generalize (bytes8 x).map (pop 8) = p at *
  obtain ⟨a, ha⟩ : ∃ a, a = num p + num p / 256 := ⟨_, rfl⟩
  obtain ⟨b, hb⟩ : ∃ b, b = (a + a / 65536) % 18446744073709551616 := ⟨_, rfl⟩
  obtain ⟨c, hc⟩ : ∃ c, c = (b + b / 4294967296) % 18446744073709551616 := ⟨_, rfl⟩
  obtain ⟨ln, la, hs⟩ := fold_sum p hlen hle a b c ha hb hc
  refine ⟨y, z, num p, a, b, c, ?_, ?_, ?_, ?_, ?_, ?_, ?_⟩
  · rw [and_lit (X := (x : Int) / 2) (M := 6148914691236517205) (x := x / 2) (m := 6148914691236517205) (by omega) rfl (by omega) (by omega), and_lit (X := (x : Int)) (M := 6148914691236517205) (x := x) (m := 6148914691236517205) rfl rfl hx (by omega)]
    exact wrap_nat (Int.natCast_add _ _).symm (by rw [← hy, Nat.mod_eq_of_lt ly])
  · rw [and_lit (X := (y : Int) / 4) (M := 3689348814741910323) (x := y / 4) (m := 3689348814741910323) (by omega) rfl (by omega) (by omega), and_lit (X := (y : Int)) (M := 3689348814741910323) (x := y) (m := 3689348814741910323) rfl rfl ly (by omega)]
    exact wrap_nat (Int.natCast_add _ _).symm (by rw [← hz, Nat.mod_eq_of_lt (by omega)])
  · rw [wrap_nat (x := z / 16 + z) (y := z / 16 + z) (by omega) (by omega), and_lit (X := ((z / 16 + z : Nat) : Int)) (M := 1085102592571150095) (x := z / 16 + z) (m := 1085102592571150095) rfl rfl (by omega) (by omega), hn]
  · exact wrap_nat (x := num p + num p / 256) (by omega) (by rw [← ha, Nat.mod_eq_of_lt la])
  · exact wrap_nat (x := a + a / 65536) (by omega) hb
  · exact wrap_nat (x := b + b / 4294967296) (by omega) hc
  · rw [i64_and127, wrap_low, hs]
theorem wrap64_eq (n : Int) : wrap64 n = IntKind.i64.wrap n := by
  rw [IntKind.wrap_i64]
  unfold wrap64
  rfl
theorem ones_calls (x : Nat) (w : World) (hx : x < 18446744073709551616) :
    Calls Tryd.prog 31 #[.int .u64 x] w fun e w' => e = .returned (.int .i64 (pop 64 x)) ∧ w = w' := by
  have HX := hidden (ones_keys x hx)
  clear hx
  go_enter Tryd.func31, Tryd.ntmps31
  go_wp2
  go_ret
  obtain ⟨y, z, n, a, b, c, k1, k2, k3, k4, k5, k6, k7⟩ := HX.out
  refine ⟨ret_i ?_, rfl⟩
  simp only [k1, k2, k3, k4, k5, k6]
  rw [wrap64_eq, k7]
end Go.Proofs.YtfnpepmbklclfaaDoor
