/- What the walks of the laws over two sets share: two boxes, and what stays. -/
import Derived.Test.YtfnpepmbklclfaaDoorSetOpen
import Derived.Test.YtfnpepmbklclfaaDoorTyped
namespace Go.Proofs.YtfnpepmbklclfaaDoor
open Go.RowKit
def set (f : Nat → Bool) : Value → World → Prop := Is (.agg #[.int .u64 (word (f) 0), .int .u64 (word (f) 1), .int .u64 (word (f) 2), .int .u64 (word (f) 3)])
def W (w0 : World) (f g : Nat → Bool) (w : World) : Prop := SetAt w w0.heap.size f ∧ SetAt w (w0.heap.size + 1) g ∧ Below w0.heap.size w0 w
theorem Wm {w0 w w' : World} {f g : Nat → Bool} (h : W w0 f g w) (hb : Below w.heap.size w w') : W w0 f g w' := ⟨h.1.below hb, h.2.1.below hb, below_after h.2.2 hb⟩
theorem eqT {f g : Nat → Bool} (w : World) (h : ∀ n, n < 256 → f n = g n) : (Op.equalIn 10000 24 (.agg #[.int .u64 (word (f) 0), .int .u64 (word (f) 1), .int .u64 (word (f) 2), .int .u64 (word (f) 3)]) (.agg #[.int .u64 (word (g) 0), .int .u64 (word (g) 1), .int .u64 (word (g) 2), .int .u64 (word (g) 3)])).run Tryd.prog w = .ok true w := by
  rw [eq_sets, same_of h]
theorem sets_mono {a : Option Addr} {n : Nat} {fs : List (Nat → Bool)} {w w' : World} (h : Sets w a n fs) (hb : Below w.heap.size w w') : Sets w' a n fs := by
  refine ⟨h.1, fun hp => ?_⟩
  obtain ⟨b, off, e, hlt, hc⟩ := h.2 hp
  exact ⟨b, off, e, Nat.lt_of_lt_of_le hlt hb.size, fun i hi j hj => (hb.cell (p := ⟨b, _, none⟩) hlt).trans (hc i hi j hj)⟩

end Go.Proofs.YtfnpepmbklclfaaDoor
