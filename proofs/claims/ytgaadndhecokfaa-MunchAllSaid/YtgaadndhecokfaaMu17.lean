/- SpRead, SpRdE, SpRdN, SpAsk, put together. -/
import Derived.Test.YtgaadndhecokfaaMu16
import Derived.Test.YtgaadndhecokfaaMu11
import Derived.Test.YtgaadndhecokfaaMu06
import Derived.Test.YtgaadndhecokfaaMu07
import Derived.Test.YtgaadndhecokfaaMu08
import Derived.Laws.MakeOwn
import Derived.Test.YtgaadndhecokfaaMu09
/- Contract of read: what is known of an expression, and which parts met. -/
namespace Go.Proofs.Ytgaadndhecokfaa
open Go.RowKit Go.Lib Go.Joins
theorem fMet_one (r : List Ex) (a : Ex) : fMet (r ++ [a]) 0 = fMet r 0 ++ met a (plcs r) := by rw [fMet_append, Nat.zero_add]; simp only [fMet, List.append_nil]
theorem fMet_two (r : List Ex) (a b : Ex) : fMet (r ++ [a, b]) 0 = fMet r 0 ++ (met a (plcs r) ++ met b (plcs r + plc a)) := by rw [fMet_append, Nat.zero_add]; simp only [fMet, List.append_nil]
end Go.Proofs.Ytgaadndhecokfaa

/- Contract of read at an expression. -/
namespace Go.Proofs.Ytgaadndhecokfaa
open Go.RowKit Go.Lib Go.Joins
attribute [local go_sem] Rl.evalR_tmp Rl.evalR_const Rl.evalR_global Rl.evalR_func
section
variable {base : Nat} {row : Option Nat} {w w1 w2 : World}
theorem Mb.refl (w : World) : Mb base row w w := ⟨rfl, rfl, rfl, Nat.le_refl _, fun _ _ _ => rfl⟩
theorem Mb.trans (h : Mb base row w w1) (k : Mb base row w1 w2) : Mb base row w w2 := ⟨k.1.trans h.1, k.2.1.trans h.2.1, k.2.2.1.trans h.2.2.1, Nat.le_trans h.2.2.2.1 k.2.2.2.1, fun i hi hr => (k.2.2.2.2 i hi hr).trans (h.2.2.2.2 i hi hr)⟩
theorem Mb.below (h : Mb base row w w1) (hb : base ≤ w1.heap.size) (k : Below w1.heap.size w1 w2) : Mb base row w w2 := h.trans ⟨k.os, k.tape, k.output, k.size, fun i hi _ => k.block i (by omega)⟩
theorem Mb.own {B : Nat} (h : Mb base row w w1) (hB : base ≤ B) (k : w1.grownBy w2 (some B)) (hs : base ≤ w1.heap.size) : Mb base row w w2 := h.trans ⟨k.os, k.tape, k.output, k.size, fun i hi _ => k.block i (by omega) (fun e => by simp only [Option.some.injEq] at e; omega)⟩
theorem Mb.size (h : Mb base row w w1) : w.heap.size ≤ w1.heap.size := h.2.2.2.1
theorem Mb.block (h : Mb base row w w1) (k : Nat) (hk : k < base) (hr : row ≠ some k) : w1.heap[k]? = w.heap[k]? := h.2.2.2.2 k hk (fun e => hr e.symm)
theorem Mb.drew (h : Mb base row w w1) : Mb base row w w1.drew := h
end

end Go.Proofs.Ytgaadndhecokfaa

/- read of what is no expression. -/
namespace Go.Proofs.Ytgaadndhecokfaa
open Go.RowKit Go.Lib Go.Joins
attribute [local go_sem] evalR_tmp evalR_const evalR_global evalR_func
end Go.Proofs.Ytgaadndhecokfaa

/- Contracts of whole, First, Last, Free and Follow. -/
namespace Go.Proofs.Ytgaadndhecokfaa
open Go.RowKit Go.Lib Go.Joins
/-- what is known of a list of steps as a whole -/
def prtL (L : List Stp) : Prt := if (measV L).2 = 0 then prtE (treeE L) 0 else ⟨fNone, fNone, false⟩
/-- what follows a number, in a list of steps -/
def folL (i : Int) (L : List Stp) : Nat → Bool := if (measV L).2 = 0 then (met (treeE L) 0).foldl (fun G x => folG i G x.1 x.2) fNone else fNone
end Go.Proofs.Ytgaadndhecokfaa
