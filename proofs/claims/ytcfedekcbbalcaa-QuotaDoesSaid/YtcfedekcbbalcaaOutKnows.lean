/- What the statements of layer 4 know: the chapter's example. -/
import Derived.Test.YtcfedekcbbalcaaOutPad
namespace Go.Proofs.Ytcfedekcbbalcaa
open Go.RowKit Go.Lib

theorem kin_made {B o : Nat} {w : World} {b : Nat} {vs : Array Value} (hb : w.heap[b]? = some (.cells vs 9 (0, 0))) (hne : b ≠ o) : Kin B o w b :=
  ⟨lt_of_block hb, hne, .inr fun cs fr e => by rw [hb] at e; simp at e⟩

theorem strs_new {B o b : Nat} {w : World} (ss : List ByteArray) (len : Nat) (hl : ss.length = len) (ho : o < w.heap.size) (hb : b = w.heap.size) :
    Strs (Kin B o (w.alloc (.cells (ss.map Value.string).toArray 9))) (w.alloc (.cells (ss.map Value.string).toArray 9)) (some ⟨b, 0, none⟩) len ss := by
  subst hb
  exact strs_made (heap_alloc_new w _) rfl hl (kin_made (heap_alloc_new w _) (by omega))
/-- a call that turns the Out leaves what was there before it was made -/
theorem Save.behind {n B o : Nat} {a w w' : World} (hb : Below n a w) (hs : Save B o w w') (hB : n ≤ B) (ho : n ≤ o) (hn : n ≤ w.heap.size) : Below n a w' := hb.trans (hs.below hB ho hn)

set_option maxHeartbeats 2000000 in
theorem knows_calls (w : World) : Calls Try.prog 9 #[] w fun e w' => e = .returned (.bool true) ∧ Below w.heap.size w w' := by
  have hO := (OutAt.fresh (B := w.heap.size + 1) (r := 5) (heap_alloc_new w (.cells #[.slice none 0 0, .int .i64 5] 56)) (by simp) (by decide)).alloc (.cells #[.string ⟨#[97, 98]⟩, .string ⟨#[99, 100]⟩] 9)
  have hS := strs_new (B := w.heap.size + 1) (o := w.heap.size) (b := w.heap.size + 1) (w := w.alloc (.cells #[.slice none 0 0, .int .i64 5] 56)) [⟨#[97, 98]⟩, ⟨#[99, 100]⟩] 2 rfl (by simp) (by simp)
  have C1 := hidden (put_calls hO hS (Nat.le_refl 2) (by decide) (by decide +kernel))
  clear hO hS
  go_enter Try.func9, Try.ntmps9
  go_wp2_with fail
  refine (new_calls 5 _ (by decide)).mono ?_
  rintro e w1 ⟨rfl, rfl⟩
  go_wp2_with fail
  refine C1.out.mono ?_
  rintro e w2 ⟨rfl, ⟨v2, h2⟩, hs2⟩
  have hb2 := hs2.behind (n := w.heap.size) (a := w) (by go_grown) (by omega) (by omega) (by simp; omega)
  have l2 := h2.lt
  have hO := h2.alloc (.cells #[.string ⟨#[101, 102]⟩] 9)
  have hS := strs_new (B := w.heap.size + 1) (o := w.heap.size) (w := w2) [⟨#[101, 102]⟩] 1 rfl l2 rfl
  have C2 := hidden (put_full hO hS (Nat.le_refl 1) (by decide) (by decide +kernel))
  have HB2 := hidden hb2
  clear hO hS h2 hs2 hb2
  go_wp2_with fail
  refine C2.out.mono ?_
  rintro e w3 ⟨rfl, ⟨v3, h3⟩, hs3⟩
  have HB3 := hidden (hs3.behind (n := w.heap.size) (a := w) (HB2.out.alloc (by omega) _) (by omega) (by omega) (by simp; omega))
  have l3 := h3.lt
  have C3 := hidden (pad_calls h3 1 120 (by decide) (by decide +kernel))
  clear h3 hs3
  go_wp2_with fail
  refine C3.out.mono ?_
  rintro e w4 ⟨rfl, ⟨v4, h4⟩, hs4⟩
  have HB4 := hidden (hs4.behind (n := w.heap.size) (a := w) HB3.out (by omega) (by omega) (by omega))
  have C4 := hidden (text_calls h4)
  clear h4 hs4
  go_wp2_with fail
  refine C4.out.mono ?_
  rintro e w5 ⟨rfl, rfl⟩
  have ht : (ByteArray.empty ++ joinB [⟨#[97, 98]⟩, ⟨#[99, 100]⟩] ++ rep 1 120) = ⟨#[97, 98, 99, 100, 120]⟩ := by decide +kernel
  rw [ht]
  go_wp2
  go_ret
  exact ⟨rfl, HB4.out⟩
end Go.Proofs.Ytcfedekcbbalcaa
