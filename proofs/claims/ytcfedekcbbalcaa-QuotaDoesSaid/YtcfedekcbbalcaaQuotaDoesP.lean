/- The parts of QuotaDoes: each operation, done to an Out and to the document's answer. -/
import Derived.Test.YtcfedekcbbalcaaOutOps
import Derived.Deep.RegionHeld3
import Derived.Deep.RegionWith
import Derived.Deep.RegionLaw
namespace Go.Proofs.Ytcfedekcbbalcaa
open Go.RowKit Go.Lib

theorem total_few : ∀ (ss : List ByteArray), (∀ p, p < ss.length → (ss.getD p ByteArray.empty).size ≤ 200) → total ss ≤ 200 * ss.length
  | [], _ => by simp [total]
  | s :: r, h => by
    have h0 := h 0 (by simp)
    have ih := total_few r fun p hp => by
      have := h (p + 1) (by simp; omega)
      simpa using this
    simp only [total, List.map_cons, List.sum_cons, List.length_cons, List.getD_cons_zero] at *
    omega
theorem Ops.below {w w' : World} {a : Option Addr} {len : Nat} {L : List OpV} (h : Ops w a len L) (hb : Below w.heap.size w w') : Ops w' a len L := by
  refine ⟨h.1, fun hp => ?_⟩
  obtain ⟨b, off, e, hB, hc⟩ := h.2 hp
  have c : ∀ j, w'.cell? ⟨b, j, none⟩ = w.cell? ⟨b, j, none⟩ := fun j => hb.cell (p := ⟨b, j, none⟩) hB
  refine ⟨b, off, e, Nat.lt_of_lt_of_le hB hb.size, fun i x hx => ?_⟩
  obtain ⟨⟨c0, c1, c2, c3⟩, g1, g2, g3, g4⟩ := hc i x hx
  exact ⟨⟨(c _).trans c0, (c _).trans c1, (c _).trans c2, (c _).trans c3⟩, g1, g2, g3.below fun b hb' => ⟨Nat.lt_of_lt_of_le hb' hb.size, hb.block b hb'⟩, g4⟩

theorem OutAt.drew {w : World} {B o : Nat} {s : ByteArray} {r : Nat} {v : Value} (h : OutAt w B o s r v) : OutAt w.drew B o s r v := h.below (Below.refl _ _).drew
/-- an Out stays while the document's answer beside it is turned -/
theorem OutAt.beside {w : World} {B o b : Nat} {s : ByteArray} {r : Nat} {v x y : Value} (h : OutAt w B o s r v) (hx : TwoAt 28 w b x y) (x' y' : Value) : OutAt ((w.setCell ⟨b, 0, none⟩ x').setCell ⟨b, 1, none⟩ y') B o s r v := by
  have hne : o ≠ b := fun e => by
    subst e
    have h1 := h.blk
    unfold TwoAt at hx
    rw [hx] at h1
    simp at h1
  have hrow : v.ownBlock ≠ some b := fun e => by
    rcases h.own.2 with ⟨rfl, _⟩ | ⟨g, cap, cur, rfl, _, hg, _⟩
    · simp [Value.ownBlock] at e
    · simp only [Value.ownBlock, Option.some.injEq] at e
      subst e
      unfold TwoAt at hx
      rw [hx] at hg
      simp at hg
  refine ⟨?_, ownsRow_setCell_other (ownsRow_setCell_other h.own hrow _) hrow _, ?_, h.le, h.top⟩
  · rw [heap_setCell_other _ _ _ _ hne, heap_setCell_other _ _ _ _ hne]
    exact h.blk
  · have := h.low
    simpa [World.setCell] using this

/-- what both answer, and what both hold behind it -/
def BothPut (r : Nat) (s : ByteArray) (la : Option Addr) (ll lc : Nat) (B o : Nat) (w : World) (e : Int) (s' : ByteArray) : Prop :=
  s'.size ≤ r ∧ (∃ v, OutAt w B o s r v) ∧ (Calls Try.prog 10 #[.pointer (some ⟨o, 0, none⟩), .slice la ll lc] w fun e' w' => e' = .returned (.int .i64 e) ∧ Turns B o w s' r w') ∧
    ∀ W, Save B o w W → Calls Try.prog 11 #[.agg #[.int .i64 r, .string s], .slice la ll lc] W fun e' w' => e' = refR r s' e ∧ Below W.heap.size W w'
theorem both_put {w : World} {B o r : Nat} {s : ByteArray} {v : Value} {la : Option Addr} {ll lc : Nat} {ss : List ByteArray} (h : OutAt w B o s r v) (hs : Strs (Kin B o w) w la ll ss) (hl : ll ≤ lc) (hc : lc ≤ maxLen) (ht : total ss ≤ 1048576) :
    ∃ e s', BothPut r s la ll lc B o w e s' := by
  have hle := h.le
  have htop := h.top
  have key : ∀ W, Save B o w W → Strs (fun b => b < W.heap.size) W la ll ss := fun W hW => hs.below fun b hb => ⟨(hb.save hW).1, hW.block b hb⟩
  by_cases hq : s.size + total ss ≤ r
  · refine ⟨0, s ++ joinB ss, ?_, ⟨v, h⟩, put_calls h hs hl hc hq, fun W hW => ?_⟩
    · rw [ByteArray.size_append, joinB_size]
      exact hq
    · obtain ⟨e, s', hE, hC⟩ := rput_calls r s la ll lc ss W hl hc (key W hW) (by omega) ht
      rw [if_pos hq] at hE
      obtain ⟨rfl, rfl⟩ := hE
      exact hC
  · refine ⟨6, s, hle, ⟨v, h⟩, put_full h hs hl hc (by omega), fun W hW => ?_⟩
    obtain ⟨e, s', hE, hC⟩ := rput_calls r s la ll lc ss W hl hc (key W hW) (by omega) ht
    rw [if_neg hq] at hE
    obtain ⟨rfl, rfl⟩ := hE
    exact hC
def BothPad (r : Nat) (s : ByteArray) (n c : Int) (B o : Nat) (w : World) (e : Int) (s' : ByteArray) : Prop :=
  s'.size ≤ r ∧ (Calls Try.prog 12 #[.pointer (some ⟨o, 0, none⟩), .int .i64 n, .int .u8 c] w fun e' w' => e' = .returned (.int .i64 e) ∧ Turns B o w s' r w') ∧
    ∀ W, Calls Try.prog 13 #[.agg #[.int .i64 r, .string s], .int .i64 n, .int .u8 c] W fun e' w' => e' = refR r s' e ∧ Below W.heap.size W w'
theorem both_pad {w : World} {B o r : Nat} {s : ByteArray} {v : Value} (h : OutAt w B o s r v) (n c : Int) (hc : 0 ≤ c ∧ c ≤ 255) : ∃ e s', BothPad r s n c B o w e s' := by
  have hle := h.le
  have htop := h.top
  by_cases h0 : n < 0
  · exact ⟨2, s, hle, pad_low h n c h0, fun W => rpad_low r s n c W hle htop h0⟩
  · obtain ⟨m, rfl⟩ := Int.eq_ofNat_of_zero_le (show 0 ≤ n by omega)
    by_cases h1 : s.size + m ≤ r
    · refine ⟨0, s ++ rep m c, ?_, pad_calls h m c hc h1, fun W => rpad_calls r s m c W htop h1⟩
      rw [ByteArray.size_append, rep_size]
      exact h1
    · exact ⟨6, s, hle, pad_high h m c (by omega), fun W => rpad_high r s m c W hle htop (by omega)⟩
def BothCut (r : Nat) (s : ByteArray) (n : Int) (B o : Nat) (w : World) (e : Int) (s' : ByteArray) : Prop :=
  s'.size ≤ r ∧ (Calls Try.prog 14 #[.pointer (some ⟨o, 0, none⟩), .int .i64 n] w fun e' w' => e' = .returned (.int .i64 e) ∧ Turns B o w s' r w') ∧
    ∀ W, Calls Try.prog 15 #[.agg #[.int .i64 r, .string s], .int .i64 n] W fun e' w' => e' = refR r s' e ∧ Below W.heap.size W w'
theorem both_cut {w : World} {B o r : Nat} {s : ByteArray} {v : Value} (h : OutAt w B o s r v) (n : Int) : ∃ e s', BothCut r s n B o w e s' := by
  have hle := h.le
  have htop := h.top
  by_cases h0 : n < 0
  · exact ⟨2, s, hle, cut_low h n h0, fun W => rcut_low r s n W (.inl h0)⟩
  · obtain ⟨m, rfl⟩ := Int.eq_ofNat_of_zero_le (show 0 ≤ n by omega)
    by_cases h1 : m ≤ s.size
    · exact ⟨0, s.extract 0 m, by rw [size_take s m h1]; omega, cut_calls h m h1, fun W => rcut_calls r s m W (by omega) h1⟩
    · exact ⟨2, s, hle, cut_high h m (by omega), fun W => rcut_low r s m W (.inr (by omega))⟩
end Go.Proofs.Ytcfedekcbbalcaa
