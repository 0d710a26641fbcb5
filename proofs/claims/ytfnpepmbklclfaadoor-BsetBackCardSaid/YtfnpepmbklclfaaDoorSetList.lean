/- Contract of the program's list of a set's bytes. -/
import Derived.Test.YtfnpepmbklclfaaDoorSetFirsts
import Derived.Laws.MakeOwn
namespace Go.Proofs.YtfnpepmbklclfaaDoor
open Go.RowKit

theorem grown_below {w w' : World} (h : w.grownBy w' none) : Below w.heap.size w w' := ⟨h.os, h.tape, h.output, h.size, fun k hk => h.block k hk (by simp)⟩
theorem and_pred (x : Nat) (h : x < 18446744073709551616) : bits .and .u64 (x : Int) (IntKind.u64.wrap ((x : Int) - 1)) = ((x &&& (x - 1) : Nat) : Int) := by
  by_cases h0 : x = 0
  · subst h0
    decide
  · have e : IntKind.u64.wrap ((x : Int) - 1) = ((x - 1 : Nat) : Int) := by rw [IntKind.wrap_u64]; omega
    rw [e, u64_and_nat x _ h (by omega)]
/-- the bytes of the first k words -/
def upWords (f : Nat → Bool) : Nat → List Nat
  | 0 => []
  | k + 1 => upWords f k ++ bitsOf k (word f k)
theorem upWords_len (f : Nat → Bool) : ∀ k, (upWords f k).length ≤ 64 * k
  | 0 => by simp [upWords]
  | k + 1 => by
    have := upWords_len f k
    have h := bitsOf_length k (word f k)
    have h2 := pop_le 64 (word f k)
    rw [upWords, List.length_append]
    omega
theorem upWords_four (f : Nat → Bool) : upWords f 4 = elems f := by
  rw [elems_words]
  simp [upWords]
def Got (L : List Nat) (base : Nat) (v : Value) (w : World) : Prop := w.ownsRow base 5 1 v L.length (L.map byteV)
theorem got_more {L : List Nat} {m base : Nat} {v : Value} {w : World} (hw : w.ownsRow base 5 1 v (L.length + 1) (L.map byteV ++ [.int .u8 m])) : Got (L ++ [m]) base v w := by
  unfold Got
  simpa [byteV] using hw

theorem Tab.grown {w w' : World} {base : Nat} {e : TypeId} {size : Nat} {v : Value} {n : Nat} {xs : List Value} (h : Tab w) (hown : w.ownsRow base e size v n xs) (hg : w.grownBy w' v.ownBlock) (hB : 0 < base) : Tab w' := fun j hj =>
  (World.cell?_of_block (hg.block _ (cell_lt (h j hj)) fun e => by have h2 := (hown.lt _ e.symm).1; exact absurd h2 (Nat.not_le.2 hB))).trans (h j hj)

set_option maxRecDepth 100000 in
theorem bytes_calls (f : Nat → Bool) (w : World) (ht : Tab w) :
    Calls Tryd.prog 24 #[(.agg #[.int .u64 (word (f) 0), .int .u64 (word (f) 1), .int .u64 (word (f) 2), .int .u64 (word (f) 3)])] w (RetRow (w.heap.size + 1) 5 1 (elems f).length ((elems f).map byteV) w) := by
  have HC := hidden (count_calls f (w.alloc (.cells #[.int .u64 (word (f) 0), .int .u64 (word (f) 1), .int .u64 (word (f) 2), .int .u64 (word (f) 3)] 24)))
  obtain ⟨i0, hi, hz0, hz1, hz2⟩ := info_parts infoByte
  have HI := hidden hi
  have HZ := hidden (And.intro hz0 (And.intro hz1 hz2))
  have hle := elems_le f
  have HT := hidden (ht.below ((Below.refl w.heap.size w).alloc (Nat.le_refl _) (.cells #[.int .u64 (word (f) 0), .int .u64 (word (f) 1), .int .u64 (word (f) 2), .int .u64 (word (f) 3)] 24)))
  have HL := hidden (fun i => word_lt f i)
  have htl := cell_lt (ht 0 (by decide))
  clear hi hz0 hz1 hz2 ht
  go_enter Tryd.func24, Tryd.ntmps24
  go_wp2_with fail
  refine HC.out.mono ?_
  rintro e w1 ⟨rfl, hb1⟩
  rw [count_words f]
  have hsz := hb1.size
  simp at hsz
  go_wp2_with (at_make; refine wpList_make_own _ rfl _ _ 38 rfl (w.heap.size + 1) 5 i0 (.int .u8 0) 1 Tryd.underlying38 HI.out HZ.out.1 HZ.out.2.1 _ _ _ (elems f).length rfl rfl (by omega) ?b2 ?b3 (by omega) ?_)
  case b2 => rw [HZ.out.2.2]; omega
  case b3 => unfold maxLen; omega
  intro w2 hown2 hgrow2
  have hb2 := hb1.trans ((grown_below hgrow2).mono (by simp; omega))
  have HB2 := hidden (below_then ((Below.refl w.heap.size w).alloc (Nat.le_refl _) (.cells #[.int .u64 (word (f) 0), .int .u64 (word (f) 1), .int .u64 (word (f) 2), .int .u64 (word (f) 3)] 24)) (by simp) hb2)
  have HS2 := hidden ((SetAt.new w f).below hb2)
  have HT2 := hidden (HT.out.below hb2)
  have HO2 := hidden hown2
  clear hown2 hgrow2 hb1 hb2
  go_wp2
  go_loopw [3, 4, 5, 9] (fun v _ _ i wr => ∃ k : Nat, k ≤ 4 ∧ i = .int .i64 k ∧ Got (upWords f k) (w.heap.size + 1) v wr ∧ SetAt wr w.heap.size f ∧ Tab wr ∧ Below w.heap.size w wr) (fun _ _ _ i _ => 4 - (intOf i).toNat)
  case atStart => exact ⟨0, by omega, rfl, HO2.out, HS2.out, HT2.out, HB2.out⟩
  case round =>
    obtain ⟨k, hk, rfl, hG, hS, hT, hb⟩ := hrel
    have l1 := hS.lt
    by_cases hlt : k < 4
    · obtain ⟨c0, c1, c2, c3, _, _, _, _⟩ := hS.facts
      have hx : wr.cell? ⟨w.heap.size, k, none⟩ = some (.int .u64 (word f k)) := by
        match k, hlt with
        | 0, _ => exact c0
        | 1, _ => exact c1
        | 2, _ => exact c2
        | 3, _ => exact c3
      have HS := hidden hS
      have HG := hidden hG
      have HTr := hidden hT
      have hd : decide ((k : Int) < 4) = true := by simp; omega
      clear c0 c1 c2 c3 hS hG hT
      go_wp2
      obtain ⟨wo, rfl⟩ : ∃ wo : World, wo = wr := ⟨_, rfl⟩
      go_loopw [3, 5] (fun v u wi => ∃ (x : Nat) (L : List Nat), u = .int .u64 x ∧ x < 18446744073709551616 ∧ L ++ bitsOf k x = upWords f (k + 1) ∧ Got L (w.heap.size + 1) v wi ∧ SetAt wi w.heap.size f ∧ Tab wi ∧ Below w.heap.size w wi) (fun _ u _ => (intOf u).toNat)
      case atStart => exact ⟨_, _, rfl, HL.out k, rfl, HG.out, HS.out, HTr.out, hb⟩
      case round =>
        obtain ⟨x, L, rfl, hxl, hL, hG1, hS1, hT1, hb1⟩ := hrel
        have HG1 := hidden hG1
        have HS1 := hidden hS1
        have HT1 := hidden hT1
        have HX := hidden hxl
        have HLL := hidden hL
        have l2 := hS1.lt
        have hLl : L.length ≤ 256 := by
          have h1 := upWords_len f (k + 1)
          rw [← hL, List.length_append] at h1
          omega
        by_cases hz : x = 0
        · subst hz
          clear hG1 hS1 hT1 hxl hL
          go_wp2
          refine ⟨⟨k + 1, by omega, by go_num, ?_, HS1.out, HT1.out, hb1⟩, by simp [intOf]; omega⟩
          have e := HLL.out
          rw [bitsOf_zero, List.append_nil] at e
          rw [← e]
          exact HG1.out
        · have hb64 := (ctz_bits x hz hxl).1
          have hst := bitsOf_step k x hz hxl
          have hnz : ((x : Int) != 0) = true := by simp; omega
          have hp := and_pred x hxl
          have hless := bits_less x hz
          have HZ0 := hidden hz
          have HST := hidden hst
          have HP := hidden hp
          have HLS := hidden hless
          clear hG1 hS1 hT1 hxl hL hz hst hp hless
          go_wp2_with fail
          refine (tz_calls x _ HX.out HZ0.out HT1.out).mono ?_
          rintro e w' ⟨rfl, rfl⟩
          generalize hc : Lib.ctz 64 x = c at *
          have HCT := hidden hc
          clear hc
          have hwr : IntKind.u8.wrap ((k : Int) * 64 + (c : Int)) = ((64 * k + c : Nat) : Int) := by rw [IntKind.wrap_u8]; omega
          go_wp2_with (at_builtin; refine wpList_append_own _ rfl _ _ 38 rfl (w.heap.size + 1) 5 i0 (.int .u8 0) 1 1 Tryd.underlying38 HI.out HZ.out.1 HZ.out.2.1 HZ.out.2.2 rfl (by decide) _ _ _ rfl (HG1.out.alloc _) ⟨wr.heap.size, 0, none⟩ 1 1 [.int .u8 ((64 * k + c : Nat) : Int)] rfl rfl ?c1 ?c2 ?c3 ?c4 ?c5 ?_)
          case c1 => exact fun j u hj => news_one hj
          case c2 => exact fun u hu => by simp at hu; subst hu; rfl
          case c3 => unfold maxLen; omega
          case c4 => omega
          case c5 => simp; omega
          intro v2 w3 hown3 hgrow3 _
          have HO := hidden (HG1.out.alloc (.cells #[.int .u8 ((64 * k + c : Nat) : Int)] 5))
          have HR := hidden hown3
          have HS3 := hidden ((HS1.out.alloc (.cells #[.int .u8 ((64 * k + c : Nat) : Int)] 5)).grown HO.out hgrow3 (Nat.lt_succ_self _))
          have HB3 := hidden (below_grown (hb1.alloc (by omega) (.cells #[.int .u8 ((64 * k + c : Nat) : Int)] 5)) HO.out hgrow3 (Nat.le_succ _) (by simp; omega))
          have HT3 := hidden ((HT1.out.below ((Below.refl wr.heap.size wr).alloc (Nat.le_refl _) (.cells #[.int .u8 ((64 * k + c : Nat) : Int)] 5))).grown HO.out hgrow3 (by omega))
          clear hown3 hgrow3
          go_wp2
          go_roundw
          case rel =>
            refine ⟨x &&& (x - 1), L ++ [64 * k + c], by rw [HP.out], Nat.lt_trans HLS.out HX.out, ?_, got_more (by simpa using HR.out), HS3.out, HT3.out, HB3.out⟩
            rw [← HLL.out, HST.out, List.append_assoc]
            rfl
          case measure =>
            rw [HP.out]
            exact HLS.out
    · have e : k = 4 := by omega
      subst e
      have HG := hidden hG
      clear hG hS
      go_wp2
      go_ret
      rw [upWords_four] at HG
      exact ⟨_, rfl, HG.out, hb⟩
end Go.Proofs.YtfnpepmbklclfaaDoor
