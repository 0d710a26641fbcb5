/- The contract of the iterator word.parts. -/
import Derived.Test.YtjkjbibfaekklaaWordSplit
import Derived.RangeFuncNested
import Derived.RangeFuncBound
import Derived.RangeFuncCalls
import Derived.RangeFuncLeaves
import Derived.Shelf.Abstract
import Derived.Shelf.RegionOpen
import Derived.OwnWalkIn
import Derived.TacticsInMore
import Derived.LoopNIn
import Derived.LoopIn
namespace Go.Proofs.Ytjkjbibfaekklaa
open Go.RowKit Go.Shelf
attribute [local go_sem] Oper.semAt_some

abbrev Piece := List UInt8 × List UInt8
def encP (x : Piece) : Array Value := #[.string (txt x.1), .string (txt x.2)]
def strLen : Value → Nat
  | .string s => s.size
  | _ => 0
theorem pieces_step {c : UInt8} {l r : List UInt8} {pre : List Piece} (h : pieces c l = pre ++ pieces c r) (hr : r ≠ []) :
    pieces c l = (pre ++ [cutL c r]) ++ pieces c (cutL c r).2 ∧ pre.length < (pieces c l).length ∧ (cutL c r).2.length < r.length := by
  have h2 := pieces_cons c hr
  have h3 := cutL_snd_le c r
  have h4 : 0 < r.length := List.length_pos_iff.2 hr
  refine ⟨by rw [h, h2]; simp, by rw [h, h2]; simp, by omega⟩

theorem below_grown {W W' : World} (h : Below W.heap.size W W') : W.grownBy W' none := ⟨h.os, h.tape, h.output, h.size, fun k hk _ => h.block k hk⟩

/-- block b lies as it lay -/
structure KeepE (b : Nat) (W W' : World) : Prop where
  size : W.heap.size ≤ W'.heap.size
  block : W'.heap[b]? = W.heap[b]?
theorem KeepE.refl (b : Nat) (W : World) : KeepE b W W := ⟨Nat.le_refl _, rfl⟩
theorem KeepE.trans {b : Nat} {A B C : World} (h : KeepE b A B) (k : KeepE b B C) : KeepE b A C := ⟨Nat.le_trans h.size k.size, k.block.trans h.block⟩
theorem KeepE.below {b n : Nat} {W W' : World} (h : Below n W W') (hb : b < n) : KeepE b W W' := ⟨h.size, h.block b hb⟩
theorem KeepE.put {b : Nat} {w : World} (hb : b < w.heap.size) (W : World) (l : Nat) (o o' : Obj) (hl : w.heap.size ≤ l) (_ : W.heap[l]? = some o) (_ : o.isCells = false) (_ : o.isWalk = false) : KeepE b W (W.putObj l o') :=
  ⟨(grownBy_putObj' W l o').size, World.putObj_heap_other (by omega)⟩

set_option maxRecDepth 100000 in
set_option maxHeartbeats 2000000 in
theorem iter_in (n : Nat) (hn : 1 ≤ n) (l Bs Be : Nat) (s : ByteArray) (c : UInt8) (hs : s.size ≤ maxLen) (J Jx : List Piece → World → Prop)
    (hY : ∀ pre x W, J pre W → pre.length < (pieces c s.data.toList).length → YieldAt Fence.wide (n - 1) Try.prog l (encP x) W fun e W' =>
      (e = .returned (.bool true) ∧ J (pre ++ [x]) W' ∧ KeepE Be W W') ∨ (e = .returned (.bool false) ∧ Jx (pre ++ [x]) W'))
    (hJ : ∀ pre W W', J pre W → W.grownBy W' none → J pre W')
    (W : World) (hE : Be < W.heap.size) (hBs : W.cell? ⟨Bs, 0, none⟩ = some (.string s)) (hBe : W.cell? ⟨Be, 0, none⟩ = some (.string ⟨#[c]⟩)) (h0 : J [] W) :
    CallsIn Fence.wide n Try.prog 25 #[.func (.yield l) #[] #[], .pointer (some ⟨Bs, 0, none⟩), .pointer (some ⟨Be, 0, none⟩)] W fun e W' => (∃ v, e = .returned v) ∧
      ((∃ ys, ys = pieces c s.data.toList ∧ J ys W') ∨ (∃ pre, pre <+: pieces c s.data.toList ∧ Jx pre W')) := by
  refine callsIn_of_wp Try.func25 rfl trivial ?_ rfl
  simp only [Try.ntmps25, List.size_toArray, List.length_cons, List.length_nil, Nat.reduceAdd, Nat.reduceSub, Array.replicate_succ, Array.replicate_zero, List.push_toArray, List.append_toArray, List.nil_append, List.cons_append]
  gi_wp2
  gi_loopw [4] (fun f wr => ∃ (t : ByteArray) (pre : List Piece), f = .string t ∧ t.size ≤ s.size ∧ pieces c s.data.toList = pre ++ pieces c t.data.toList ∧ J pre wr ∧ KeepE Be W wr)
    (fun f _ => strLen f)
  case atStart => exact ⟨s, [], rfl, Nat.le_refl _, rfl, h0, KeepE.refl _ _⟩
  case round =>
    obtain ⟨t, pre, rfl, ht, hp, hJs, hnx⟩ := hrel
    have hce : wr.cell? ⟨Be, 0, none⟩ = some (.string ⟨#[c]⟩) := (World.cell?_of_block (a := ⟨Be, 0, none⟩) hnx.block).trans hBe
    have hsz := hnx.size
    by_cases hi : t.size = 0
    · have he := empty_yes hi
      have he' := list_yes hi
      have hd := data_yes hi
      rw [hd, pieces_nil, List.append_nil] at hp
      have HP := hidden hp
      clear hp hd hi
      gi_wp2
      go_end0
      exact ⟨⟨_, rfl⟩, .inl ⟨_, HP.out.symm, hJs⟩⟩
    · have he := empty_no hi
      have he' := list_no hi
      have hd := data_no hi
      obtain ⟨g1, g2, g3⟩ := pieces_step hp hd
      have HC := hidden (fun W => cut_calls t c W (by omega))
      have HY := hidden (fun W hJ => hY pre (cutL c t.data.toList) W hJ g2)
      have H1 := hidden g1
      have g4 : (cutL c t.data.toList).2.length < t.size := by simpa using g3
      clear hp hd g1 g2 g3
      generalize cutL c t.data.toList = x at HC HY H1 g4
      gi_wp2_with (refine ⟨trivial, ?_⟩; gi_at_call 26; refine (callsIn_wide.2 (HC.out _)).mono ?_)
      rintro e w1 ⟨rfl, hb1⟩
      obtain ⟨fn, tmps, assign, body, hy, hR⟩ := HY.out w1 (hJ _ _ _ hJs (below_grown hb1))
      dsimp only [encP] at hy
      gi_wp2
      refine hR.mono ?_
      rintro e W3 (⟨rfl, hJ3, hk3⟩ | ⟨rfl, hJx3⟩)
      · gi_wp2
        go_roundw
        case rel => exact ⟨_, _, rfl, by rw [txt_size]; omega, H1.out, hJ3, (hnx.trans (KeepE.below hb1 (by omega))).trans hk3⟩
        case measure => simp only [strLen, txt_size]; omega
      · gi_wp2
        refine bodyPost_ret (results_none rfl _ _ _) rfl ?_
        exact ⟨⟨_, rfl⟩, .inr ⟨_, ⟨_, H1.out.symm⟩, hJx3⟩⟩
theorem parts_in (s : ByteArray) (c : UInt8) (w : World) : Calls Try.prog 24 #[.string s, .string ⟨#[c]⟩] w fun e w' => e = .returned (.func (.func 25) #[] #[.pointer (some ⟨w.heap.size, 0, none⟩), .pointer (some ⟨w.heap.size + 1, 0, none⟩)]) ∧ w' = (w.alloc (.cells #[.string s] 9)).alloc (.cells #[.string ⟨#[c]⟩] 9) := by
  go_enter Try.func24, Try.ntmps24
  go_wp2
  go_ret
  exact ⟨rfl, rfl⟩
theorem parts_stops (n : Nat) (hn : 1 ≤ n) (Bs Be : Nat) (s : ByteArray) (c : UInt8) (hs : s.size ≤ maxLen) (w : World) (hB : Bs < w.heap.size) (hE : Be < w.heap.size) (hc : w.cell? ⟨Bs, 0, none⟩ = some (.string s)) (he : w.cell? ⟨Be, 0, none⟩ = some (.string ⟨#[c]⟩)) :
    SeqStopsK Fence.wide n Try.prog 25 #[.pointer (some ⟨Bs, 0, none⟩), .pointer (some ⟨Be, 0, none⟩)] encP (KeepE Be) (fun ys => ys = pieces c s.data.toList) (fun pre => pre <+: pieces c s.data.toList) (pieces c s.data.toList).length w := fun l J Jx W hW hJ _ hY h0 =>
  iter_in n hn l Bs Be s c hs J Jx hY (fun pre W W' h hg => hJ pre W W' none h hg (fun r e => by cases e)) W (by have := hW.size; omega) ((hW.cell (p := ⟨Bs, 0, none⟩) hB).trans hc) ((hW.cell (p := ⟨Be, 0, none⟩) hE).trans he) h0
end Go.Proofs.Ytjkjbibfaekklaa
