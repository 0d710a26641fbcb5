/- LvRdW, LvRdS, LvRdK, MaMath, put together. -/
import Derived.Test.YtnjjbaodfjmiaaaGreatLt05
import Derived.Deep.RegionHeld3
import Derived.Handy
import Derived.Laws.BitsAllLaws
import Derived.Lib.Bytealg
import Derived.Test.YtnjjbaodfjmiaaaGreatLt01
import Derived.Lib.SlicesCompact
/- The reference's reader at sets, first: spans, unions, Not; two digits (contracts out of elder texts that this seat's copies of them leave out). -/
namespace Go.Proofs.YtnjjbaodfjmiaaaGreat
open Go.RowKit

def hexDigit (n : Int) : Int := if n < 10 then 48 + n else 87 + n

theorem digit_calls (n : Int) (w : World) (h0 : 0 ≤ n) (h1 : n < 16) :
    Calls Tryz.prog 130 #[.int .i64 n] w fun e w' => e = .returned (.int .u8 (hexDigit n)) ∧ w = w' := by
  go_enter Tryz.func130, Tryz.ntmps130
  go_wp2
  · go_ret
    refine ⟨?_, rfl⟩
    simp [hexDigit, *]
  · go_ret
    refine ⟨?_, rfl⟩
    have h : ¬ n < 10 := by omega
    simp [hexDigit, h]
    omega

set_option maxRecDepth 100000 in
theorem rhex_calls (n : Int) (w : World) (h0 : 0 ≤ n) (h1 : n < 256) :
    Calls Tryz.prog 129 #[.int .u8 n] w fun e w' => e = .returned (.string (strOfNums [hexDigit (n / 16), hexDigit (n % 16)])) ∧ Below w.heap.size w w' := by
  go_enter Tryz.func129, Tryz.ntmps129
  go_wp2_with fail
  refine (digit_calls _ _ (by omega) (by omega)).mono ?_
  rintro e w' ⟨rfl, rfl⟩
  go_wp2_with fail
  refine (digit_calls _ _ (by omega) (by omega)).mono ?_
  rintro e w' ⟨rfl, rfl⟩
  go_wp2_with fail
  rw [run_convert_bytes_arg _ 50 5 Tryz.underlying50 Tryz.underlying5 w.heap.size 0 2 2 [hexDigit (n / 16), hexDigit (n % 16)] rfl (by
    intro i hi
    match i, hi with
    | 0, _ => simp
    | 1, _ => simp) 9 Tryz.underlying9]
  go_wp2
  go_ret
  exact ⟨rfl, by repeat (first | exact Below.refl _ _ | refine Below.alloc ?_ (Nat.le_refl _) _)⟩
def hexL : List UInt8 := [48, 49, 50, 51, 52, 53, 54, 55, 56, 57, 97, 98, 99, 100, 101, 102]
def hexS (i : Int) : ByteArray := strOfNums [hexDigit (i / 16), hexDigit (i % 16)]
def digOf (c : UInt8) : Int := Lib.indexByte hexL c

theorem digOf_all : ∀ c : UInt8, (-1 ≤ digOf c ∧ digOf c < 16) ∧ (0 ≤ digOf c → UInt8.ofNat (hexDigit (digOf c)).toNat = c) ∧ (digOf c < 0 → ∀ i : Fin 16, UInt8.ofNat (hexDigit i.val).toNat ≠ c) := by
  have h : ∀ i : Fin 256, (-1 ≤ digOf (UInt8.ofNat i.val) ∧ digOf (UInt8.ofNat i.val) < 16) ∧ (0 ≤ digOf (UInt8.ofNat i.val) → UInt8.ofNat (hexDigit (digOf (UInt8.ofNat i.val))).toNat = UInt8.ofNat i.val) ∧
      (digOf (UInt8.ofNat i.val) < 0 → ∀ j : Fin 16, UInt8.ofNat (hexDigit j.val).toNat ≠ UInt8.ofNat i.val) := by decide +kernel
  intro c
  have := h ⟨c.toNat, c.toNat_lt⟩
  simpa using this
theorem digOf_hex : ∀ i : Fin 16, digOf (UInt8.ofNat (hexDigit i.val).toNat) = i.val := by decide +kernel

/-- the byte of a text, and whether there is one -/
def unhexV (s : ByteArray) : Int × Bool :=
  match s.data.toList with
  | [a, b] => if 0 ≤ digOf a ∧ 0 ≤ digOf b then (digOf a * 16 + digOf b, true) else (0, false)
  | _ => (0, false)

theorem hexS_data (i : Int) : (hexS i).data.toList = [UInt8.ofNat (hexDigit (i / 16)).toNat, UInt8.ofNat (hexDigit (i % 16)).toNat] := rfl
theorem unhexV_hexS (i : Int) (h0 : 0 ≤ i) (h1 : i < 256) : unhexV (hexS i) = (i, true) := by
  have a := digOf_hex ⟨(i / 16).toNat, by omega⟩
  have b := digOf_hex ⟨(i % 16).toNat, by omega⟩
  simp only [Int.toNat_of_nonneg (show 0 ≤ i / 16 by omega), Int.toNat_of_nonneg (show 0 ≤ i % 16 by omega)] at a b
  unfold unhexV
  rw [hexS_data]
  simp only [a, b]
  rw [if_pos (by omega)]
  simp
  omega
theorem unhexV_none (s : ByteArray) (h : ∀ j : Nat, j < 256 → hexS j ≠ s) : unhexV s = (0, false) := by
  unfold unhexV
  split
  · rename_i a b e
    split
    · rename_i hd
      have ha := digOf_all a
      have hb := digOf_all b
      have h0 := ha.2.1 hd.1
      have h1 := hb.2.1 hd.2
      refine absurd ?_ (h (digOf a * 16 + digOf b).toNat (by omega))
      apply Go.WideShapes.bytes_inj
      rw [hexS_data, e, Int.toNat_of_nonneg (by omega)]
      rw [show (digOf a * 16 + digOf b) / 16 = digOf a by omega, show (digOf a * 16 + digOf b) % 16 = digOf b by omega, h0, h1]
    · rfl
  · rfl
set_option maxRecDepth 100000 in
theorem runhex_calls (s : ByteArray) (w : World) :
    Calls Tryz.prog 127 #[.string s] w fun e w' => e = .returned (.tuple #[.int .u8 (unhexV s).1, .bool (unhexV s).2]) ∧ Below w.heap.size w w' := by
  go_enter Tryz.func127, Tryz.ntmps127
  go_wp2
  go_loopw [4] (fun i wr => ∃ k : Nat, k ≤ 256 ∧ i = .int .i64 k ∧ (∀ j : Nat, j < k → hexS j ≠ s) ∧ Below w.heap.size w wr) (fun i _ => 256 - (Go.RowKit.intOf i).toNat)
  case atStart => exact ⟨0, by omega, rfl, fun _ h => absurd h (by omega), Below.refl _ _⟩
  case round =>
    obtain ⟨k, hk, rfl, hj, hb⟩ := hrel
    have hJ := hidden hj
    clear hj
    by_cases hlt : k < 256
    · go_wp2_with fail
      refine (rhex_calls _ _ (by omega) (by omega)).mono ?_
      rintro e w' ⟨rfl, hb1⟩
      go_wp2
      · go_ret2
        rename_i he
        have h := unhexV_hexS k (by omega) (by omega)
        rw [show hexS k = s from text_eq he] at h
        exact ⟨ret_ib (by rw [h]) (by rw [h]), below_after hb hb1⟩
      · rename_i he
        refine ⟨⟨k + 1, by omega, by go_num, fun j hj => ?_, below_after hb hb1⟩, by simp [Go.RowKit.intOf]; omega⟩
        by_cases e : j = k
        · subst e
          exact text_ne he
        · exact hJ.out j (by omega)
    · go_wp2
      go_ret2
      have h := unhexV_none s (fun j hj => hJ.out j (by omega))
      exact ⟨ret_ib (by rw [h]) (by rw [h]), hb⟩
def fNot (f : Nat → Bool) (n : Nat) : Bool := !f n
def fSpan (lo hi : Int) (n : Nat) : Bool := decide (lo ≤ n) && decide ((n : Int) ≤ hi)
/-- f below k, nothing from there on -/
def fUpto (f : Nat → Bool) (k : Nat) (n : Nat) : Bool := decide (n < k) && f n

theorem set_other {w : World} {B b : Nat} {f : Nat → Bool} (h : SetAt w B f) (hne : B ≠ b) (v0 v1 v2 v3 : Value) :
    SetAt ((((w.setCell ⟨b, 0, none⟩ v0).setCell ⟨b, 1, none⟩ v1).setCell ⟨b, 2, none⟩ v2).setCell ⟨b, 3, none⟩ v3) B f := by
  unfold SetAt at h ⊢
  rw [heap_setCell_other _ _ _ _ hne, heap_setCell_other _ _ _ _ hne, heap_setCell_other _ _ _ _ hne, heap_setCell_other _ _ _ _ hne, h]

theorem span_step (lo hi : Int) (k : Nat) (h : lo ≤ k ∧ (k : Int) ≤ hi) (n : Nat) : fOr (fUpto (fSpan lo hi) k) (fOne k) n = fUpto (fSpan lo hi) (k + 1) n := by
  simp only [fOr, fUpto, fSpan, fOne]
  rw [Bool.eq_iff_iff]
  simp
  omega
theorem span_skip (lo hi : Int) (k : Nat) (h : ¬ (lo ≤ k ∧ (k : Int) ≤ hi)) (n : Nat) : fUpto (fSpan lo hi) k n = fUpto (fSpan lo hi) (k + 1) n := by
  simp only [fUpto, fSpan]
  rw [Bool.eq_iff_iff]
  simp
  omega
theorem upto_all (f : Nat → Bool) (n : Nat) (h : n < 256) : fUpto f 256 n = f n := by simp [fUpto, h]
theorem upto_none (f : Nat → Bool) (n : Nat) : fUpto f 0 n = fNone n := by simp [fUpto, fNone]

theorem new2 (w : World) : SetAt ((w.alloc (.cells #[.int .u64 0, .int .u64 0, .int .u64 0, .int .u64 0] 103)).alloc (.cells #[.int .u64 0, .int .u64 0, .int .u64 0, .int .u64 0] 103)) w.heap.size fNone ∧
    SetAt ((w.alloc (.cells #[.int .u64 0, .int .u64 0, .int .u64 0, .int .u64 0] 103)).alloc (.cells #[.int .u64 0, .int .u64 0, .int .u64 0, .int .u64 0] 103)) (w.heap.size + 1) fNone := by
  rw [zeros_none]
  exact ⟨heap_alloc2_old w _ _, heap_alloc2_new w _ _⟩

set_option maxRecDepth 100000 in
theorem rspan_calls (lo hi : Int) (w : World) :
    Calls Tryz.prog 122 #[.int .i64 lo, .int .i64 hi] w fun e w' => e = .returned (.agg #[.int .u64 (word (fSpan lo hi) 0), .int .u64 (word (fSpan lo hi) 1), .int .u64 (word (fSpan lo hi) 2), .int .u64 (word (fSpan lo hi) 3)]) ∧ Below w.heap.size w w' := by
  go_enter Tryz.func122, Tryz.ntmps122
  go_wp2
  go_loopw [6] (fun i wr => ∃ k : Nat, k ≤ 256 ∧ i = .int .i64 k ∧ SetAt wr w.heap.size fNone ∧ SetAt wr (w.heap.size + 1) (fUpto (fSpan lo hi) k) ∧ Below w.heap.size w wr) (fun i _ => 256 - (Go.RowKit.intOf i).toNat)
  case atStart =>
    exact ⟨0, by omega, rfl, (new2 w).1, (new2 w).2.congr fun n _ => (upto_none _ n).symm, by go_grown⟩
  case round =>
    obtain ⟨k, hk, rfl, hA, hS, hb⟩ := hrel
    have HS := hidden hS
    have HA := hidden hA
    by_cases hlt : k < 256
    · obtain ⟨c0, c1, c2, c3, f0, f1, f2, f3⟩ := hS.facts
      clear hS hA
      by_cases hin : lo ≤ k ∧ (k : Int) ≤ hi
      · have hin1 := hin.1
        have hin2 := hin.2
        go_wp2_with fail
        refine (with_nat _ _ _ (by omega)).mono ?_
        rintro e w' ⟨rfl, hb1⟩
        have hS' := HS.out.below hb1
        have hA' := HA.out.below hb1
        clear c0 c1 c2 c3 f0 f1 f2 f3
        obtain ⟨c0, c1, c2, c3, f0, f1, f2, f3⟩ := hS'.facts
        have HS' := hidden hS'
        have HA' := hidden hA'
        clear hS' hA'
        go_wp2
        go_roundw
        case rel =>
          exact ⟨k + 1, by omega, by go_num, set_other HA'.out (by omega) _ _ _ _, HS'.out.stored.congr fun n _ => span_step lo hi k hin n,
            below_cells (below_then hb (by have := hb.size; omega) hb1) _ (by omega) _ _ _ _⟩
        case measure => simp [Go.RowKit.intOf]; omega
      · go_wp2
        all_goals
          refine ⟨⟨k + 1, by omega, by go_num, HA.out, HS.out.congr fun n _ => span_skip lo hi k hin n, hb⟩, by simp [Go.RowKit.intOf]; omega⟩
    · obtain ⟨c0, c1, c2, c3, f0, f1, f2, f3⟩ := hS.facts
      obtain ⟨d0, d1, d2, d3, g0, g1, g2, g3⟩ := hA.facts
      clear hS hA
      have e : k = 256 := by omega
      have HE := hidden e
      clear e
      go_wp2
      refine ret_setAt Tryz.results122 rfl rfl HA.out.stored (fun n hn => ?_) ⟨rfl, below_cells hb _ (by omega) _ _ _ _⟩
      rw [HE.out, upto_all _ n hn]
/-- which bytes two sets have -/
def fTwo (how : Int) (f g : Nat → Bool) (n : Nat) : Bool := (how == 0 && (f n || g n)) || (how == 1 && (f n && g n)) || (how == 2 && (f n && !g n))

theorem up_step {f : Nat → Bool} {k : Nat} (h : f k = true) (n : Nat) : fOr (fUpto f k) (fOne k) n = fUpto f (k + 1) n := by
  simp only [fOr, fUpto, fOne]
  by_cases e : n = k
  · subst e; simp [h]
  · rw [Bool.eq_iff_iff]; simp [e]; omega
theorem up_skip {f : Nat → Bool} {k : Nat} (h : f k = false) (n : Nat) : fUpto f k n = fUpto f (k + 1) n := by
  simp only [fUpto]
  by_cases e : n = k
  · subst e; simp [h]
  · rw [Bool.eq_iff_iff]; simp; omega

theorem SetAt.newNone (w : World) (B : Nat) (hB : w.heap.size = B) : SetAt (w.alloc (.cells #[.int .u64 0, .int .u64 0, .int .u64 0, .int .u64 0] 103)) B fNone := by
  rw [zeros_none]
  exact SetAt.newAt w fNone B hB

set_option maxRecDepth 100000 in
theorem two_calls (how : Int) (f g : Nat → Bool) (w : World) (hH : how = 0 ∨ how = 1 ∨ how = 2) :
    Calls Tryz.prog 121 #[.int .i64 how, (.agg #[.int .u64 (word (f) 0), .int .u64 (word (f) 1), .int .u64 (word (f) 2), .int .u64 (word (f) 3)]), (.agg #[.int .u64 (word (g) 0), .int .u64 (word (g) 1), .int .u64 (word (g) 2), .int .u64 (word (g) 3)])] w fun e w' => e = .returned (.agg #[.int .u64 (word (fTwo how f g) 0), .int .u64 (word (fTwo how f g) 1), .int .u64 (word (fTwo how f g) 2), .int .u64 (word (fTwo how f g) 3)]) ∧ Below w.heap.size w w' := by
  have HH := hidden hH
  clear hH
  go_enter Tryz.func121, Tryz.ntmps121
  go_wp2
  go_loopw [8] (fun i wr => ∃ k : Nat, k ≤ 256 ∧ i = .int .i64 k ∧ SetAt wr w.heap.size f ∧ SetAt wr (w.heap.size + 1) g ∧ SetAt wr (w.heap.size + 1 + 1) fNone ∧ SetAt wr (w.heap.size + 1 + 1 + 1) (fUpto (fTwo how f g) k) ∧ Below w.heap.size w wr) (fun i _ => 256 - (Go.RowKit.intOf i).toNat)
  case atStart =>
    exact ⟨0, by omega, rfl, (((SetAt.new w f).alloc _).alloc _).alloc _, ((SetAt.newAt _ g _ (by simp)).alloc _).alloc _, (SetAt.newNone _ _ (by simp)).alloc _, (SetAt.newNone _ _ (by simp)).congr fun n _ => (upto_none _ n).symm, by go_grown⟩
  case round =>
    obtain ⟨k, hk, rfl, hF, hG, hA, hS, hb⟩ := hrel
    have HS := hidden hS
    have HA := hidden hA
    have HF := hidden hF
    have HG := hidden hG
    have l1 := hS.lt
    by_cases hlt : k < 256
    · obtain ⟨c0, c1, c2, c3, _, _, _, _⟩ := hF.facts
      obtain ⟨d0, d1, d2, d3, _, _, _, _⟩ := hG.facts
      clear hS hA hF hG
      have hwr : IntKind.u8.wrap (k : Int) = k := by rw [IntKind.wrap_u8]; omega
      go_wp2_with fail
      go_region_held3 (fun w' => w'.cell? ⟨w.heap.size, 0, none⟩ = some (.int .u64 (word f 0)) ∧ w'.cell? ⟨w.heap.size, 1, none⟩ = some (.int .u64 (word f 1)) ∧ w'.cell? ⟨w.heap.size, 2, none⟩ = some (.int .u64 (word f 2)) ∧ w'.cell? ⟨w.heap.size, 3, none⟩ = some (.int .u64 (word f 3)) ∧
        w'.cell? ⟨w.heap.size + 1, 0, none⟩ = some (.int .u64 (word g 0)) ∧ w'.cell? ⟨w.heap.size + 1, 1, none⟩ = some (.int .u64 (word g 1)) ∧ w'.cell? ⟨w.heap.size + 1, 2, none⟩ = some (.int .u64 (word g 2)) ∧ w'.cell? ⟨w.heap.size + 1, 3, none⟩ = some (.int .u64 (word g 3)) ∧ Below wr.heap.size wr w')
        (first | (go_keep; done) | ((try dsimp only); (try go_split_ands); refine ⟨?_, ?_, ?_, ?_, ?_, ?_, ?_, ?_, ?_⟩ <;> (first | assumption | (exact (Below.refl _ _).drew) | (exact below_after ((Below.refl _ _).drew) hb1) | (exact below_after (by assumption) hb1) | ((rw [hb1.cell (by simp; omega)]; (first | assumption | (simp; assumption)))))))
        ((go_at_call 109; refine (rhas_nat _ k _ hlt).mono ?_; rintro e w1 ⟨rfl, hb1⟩; have hz1 := hb1.size; (try simp at hz1)))
      go_split_ands
      have hB : Below wr.heap.size wr w1 := by assumption
      have hS' := HS.out.below hB
      have hA' := HA.out.below hB
      have hF' := HF.out.below hB
      have hG' := HG.out.below hB
      have hb' := hidden (below_then hb (by omega) hB)
      obtain ⟨p0, p1, p2, p3, q0, q1, q2, q3⟩ := hS'.facts
      have HS' := hidden hS'
      have HA' := hidden hA'
      have HF' := hidden hF'
      have HG' := hidden hG'
      clear hB hS' hA' hF' hG' HS HA HF HG hb c0 c1 c2 c3 d0 d1 d2 d3
      have hH := HH.out
      clear HH
      rcases hH with e | e | e
      all_goals subst e
      all_goals cases hf : f k <;> cases hg : g k
      all_goals go_wp2_with fail
      all_goals first
        | exact ⟨⟨k + 1, by omega, by go_num, HF'.out, HG'.out, HA'.out, HS'.out.congr fun n _ => up_skip (by simp [fTwo, hf, hg]) n, hb'.out⟩, by simp [Go.RowKit.intOf]; omega⟩
        | ((with_reducible refine (with_nat _ k _ (by omega)).mono ?_)
           rintro e w2 ⟨rfl, hb2⟩
           have hS2 := HS'.out.below hb2
           have hA2 := HA'.out.below hb2
           have hF2 := HF'.out.below hb2
           have hG2 := HG'.out.below hb2
           have l2 := hb'.out.size
           have HB2 := hidden (below_then hb'.out (by omega) hb2)
           clear p0 p1 p2 p3 q0 q1 q2 q3
           obtain ⟨p0, p1, p2, p3, q0, q1, q2, q3⟩ := hS2.facts
           have HS2 := hidden hS2
           have HA2 := hidden hA2
           have HF2 := hidden hF2
           have HG2 := hidden hG2
           clear hS2 hA2 hF2 hG2 hb2 HS' HA' HF' HG'
           go_wp2
           go_roundw
           case rel =>
             exact ⟨k + 1, by omega, by go_num, set_other HF2.out (by omega) _ _ _ _, set_other HG2.out (by omega) _ _ _ _, set_other HA2.out (by omega) _ _ _ _, HS2.out.stored.congr fun n _ => up_step (by simp [fTwo, hf, hg]) n,
               below_cells HB2.out _ (by omega) _ _ _ _⟩
           case measure => simp [Go.RowKit.intOf]; omega)
    · have e : k = 256 := by omega
      have HE := hidden e
      obtain ⟨c0, c1, c2, c3, f0, f1, f2, f3⟩ := hS.facts
      obtain ⟨d0, d1, d2, d3, g0, g1, g2, g3⟩ := hA.facts
      clear hS hA hF hG e
      go_wp2
      refine ret_setAt Tryz.results121 rfl rfl HA.out.stored (fun n hn => ?_) ⟨rfl, below_cells hb _ (by omega) _ _ _ _⟩
      rw [HE.out, upto_all _ n hn]
theorem SetAt.drew {w : World} {B : Nat} {f : Nat → Bool} (h : SetAt w B f) : SetAt w.drew B f := h
theorem rnot_calls (f : Nat → Bool) (w : World) :
    Calls Tryz.prog 116 #[(.agg #[.int .u64 (word (f) 0), .int .u64 (word (f) 1), .int .u64 (word (f) 2), .int .u64 (word (f) 3)])] w fun e w' => e = .returned (.agg #[.int .u64 (word (fNot f) 0), .int .u64 (word (fNot f) 1), .int .u64 (word (fNot f) 2), .int .u64 (word (fNot f) 3)]) ∧ Below w.heap.size w w' := by
  go_enter Tryz.func116, Tryz.ntmps116
  go_wp2
  go_region_with (first
    | (go_at_call 122; refine (rspan_calls 0 255 _).mono ?_; rintro e w1 ⟨rfl, hb1⟩; have hF1 := ((SetAt.new w f).alloc (.cells #[.int .u64 0, .int .u64 0, .int .u64 0, .int .u64 0] 103)).drew.below hb1; have HN1 := hidden ((SetAt.newNone (w.alloc (.cells #[.int .u64 (word (f) 0), .int .u64 (word (f) 1), .int .u64 (word (f) 2), .int .u64 (word (f) 3)] 103)) (w.heap.size + 1) (by simp)).drew.below hb1); have HB1 := hidden hb1; clear hb1; obtain ⟨c0, c1, c2, c3, f0, f1, f2, f3⟩ := hF1.facts; clear hF1)
    | (go_at_call 121; refine (two_calls 2 (fSpan 0 255) f _ (by simp)).mono ?_; rintro e w2 ⟨rfl, hb2⟩; have hN2 := HN1.out.below hb2; have HB2 := hidden hb2; clear hb2; obtain ⟨d0, d1, d2, d3, g0, g1, g2, g3⟩ := hN2.facts; have HN2 := hidden hN2; clear hN2))
  all_goals
    go_wp2
    refine ret_setAt Tryz.results116 rfl rfl HN2.out.stored (fun n hn => ?_) ⟨rfl, below_cells (below_then (below_then (by go_grown) (by simp; omega) HB1.out) (by have := HB1.out.size; simp at this; omega) HB2.out) _ (by omega) _ _ _ _⟩
    simp [fTwo, fSpan, fNot]
    omega
end Go.Proofs.YtnjjbaodfjmiaaaGreat

/- The reference's reader: an escape of two digits, a char that is an escape, a class of one range. -/
namespace Go.Proofs.YtnjjbaodfjmiaaaGreat
open Go.RowKit Go.Lib Go.Joins

set_option maxRecDepth 100000 in
theorem hexc_calls (n : Nat) (w : World) (h : (48 ≤ n ∧ n ≤ 57) ∨ (97 ≤ n ∧ n ≤ 102)) : Calls Tryz.prog 126 #[.int .u8 n] w fun e w' => e = .returned (.bool true) ∧ w = w' := by
  rcases h with ⟨h1, h2⟩ | ⟨h1, h2⟩
  · have d1 : decide ((48 : Int) ≤ n) = true := decide_eq_true (by omega)
    have d2 : decide ((n : Int) ≤ 57) = true := decide_eq_true (by omega)
    go_enter Tryz.func126, Tryz.ntmps126
    go_wp2
    go_ret
    exact ⟨rfl, rfl⟩
  · have d1 : decide ((48 : Int) ≤ n) = true := decide_eq_true (by omega)
    have d2 : decide ((n : Int) ≤ 57) = false := decide_eq_false (by omega)
    have d3 : decide ((97 : Int) ≤ n) = true := decide_eq_true (by omega)
    have d4 : decide ((n : Int) ≤ 102) = true := decide_eq_true (by omega)
    go_enter Tryz.func126, Tryz.ntmps126
    go_wp2
    go_ret
    exact ⟨rfl, rfl⟩
def isHex (c : UInt8) : Prop := (48 ≤ c.toNat ∧ c.toNat ≤ 57) ∨ (97 ≤ c.toNat ∧ c.toNat ≤ 102)
/-- what a char answers -/
def RdC (w : World) (v : Int) (n : Nat) (e : Ending) (w' : World) : Prop := e = .returned (.tuple #[.int .u8 v, .int .i64 (n : Int), .bool true]) ∧ Below w.heap.size w w'
set_option maxHeartbeats 2000000 in
set_option maxRecDepth 100000 in
theorem resc_at (s : ByteArray) (p : Nat) (a b : UInt8) (v : Int) (w : World) (hs : s.size ≤ 1000) (h1 : At s (p + 1) 120) (h2 : At s (p + 2) a) (h3 : At s (p + 3) b) (ha : isHex a) (hb : isHex b) (hv : unhexV (s.extract (p + 2) (p + 4)) = (v, true)) :
    Calls Tryz.prog 124 #[.string s, .int .i64 (p : Int)] w (RdC w v (p + 4)) := by
  have HA := hidden (fun W => hexc_calls a.toNat W ha)
  have HB := hidden (fun W => hexc_calls b.toNat W hb)
  have hu := fun W => runhex_calls (s.extract (p + 2) (p + 4)) W
  rw [hv] at hu
  have HU := hidden hu
  obtain ⟨p1, x1⟩ := h1
  obtain ⟨p2, x2⟩ := h2
  obtain ⟨p3, x3⟩ := h3
  have x1 : ((s[p + 1]'p1).toNat : Int) = 120 := x1
  have a1 : IntKind.i64.wrap ((p : Int) + 1) = ((p + 1 : Nat) : Int) := by rw [IntKind.wrap_i64]; omega
  have a2 : IntKind.i64.wrap ((p : Int) + 2) = ((p + 2 : Nat) : Int) := by rw [IntKind.wrap_i64]; omega
  have a4 : IntKind.i64.wrap ((p : Int) + 4) = ((p + 4 : Nat) : Int) := by rw [IntKind.wrap_i64]; omega
  have q1 : decide ((s.size : Int) ≤ ((p + 1 : Nat) : Int)) = false := decide_eq_false (by omega)
  have q1' : decide (s.size ≤ p + 1) = false := decide_eq_false (by omega)
  have hsl : ∀ W : World, (Instr.slice 9 (.string s) (some (.int .i64 ((p : Int) + 2))) (some (.int .i64 ((p : Int) + 4))) none).run Tryz.prog W = .ok (.string (s.extract (p + 2) (p + 4))) W := fun W => by
    rw [run_slice_string W 9 s .i64 .i64 ((p : Int) + 2) ((p : Int) + 4) Tryz.underlying9 (by omega) (by omega) (by omega), show ((p : Int) + 2).toNat = p + 2 by omega, show ((p : Int) + 4).toNat = p + 4 by omega]
  clear hu hv ha hb
  go_enter Tryz.func124, Tryz.ntmps124
  go_wp2
  go_loop [8] (fun i => ∃ k : Nat, 2 ≤ k ∧ k ≤ 4 ∧ i = .int .i64 k) (fun i => 4 - (RowKit.intOf i).toNat)
  case atStart => exact ⟨2, by omega, by omega, rfl⟩
  case round =>
    obtain ⟨k, k1, k2, rfl⟩ := hrel
    have hk : k = 2 ∨ k = 3 ∨ k = 4 := by omega
    rcases hk with rfl | rfl | rfl
    · have g1 : decide ((s.size : Int) ≤ ((p + 2 : Nat) : Int)) = false := decide_eq_false (by omega)
      have g1' : decide (s.size ≤ p + 2) = false := decide_eq_false (by omega)
      go_wp2_with fail
      refine (HA.out _).mono ?_
      rintro e w1 ⟨rfl, rfl⟩
      go_wp2
      go_round
      case rel => exact ⟨3, by omega, by omega, by go_num⟩
      case measure => simp [RowKit.intOf]
    · have g1 : decide ((s.size : Int) ≤ ((p + 3 : Nat) : Int)) = false := decide_eq_false (by omega)
      have g1' : decide (s.size ≤ p + 3) = false := decide_eq_false (by omega)
      go_wp2_with fail
      refine (HB.out _).mono ?_
      rintro e w1 ⟨rfl, rfl⟩
      go_wp2
      go_round
      case rel => exact ⟨4, by omega, by omega, by go_num⟩
      case measure => simp [RowKit.intOf]
    · go_wp2_with fail
      refine (HU.out _).mono ?_
      rintro e w1 ⟨rfl, hb1⟩
      go_wp2
      go_ret3
      exact ⟨rfl, hb1⟩
theorem rchar_esc (s : ByteArray) (p : Nat) (v : Int) (n : Nat) (R : List UInt8) (w : World) (h1 : At s p 92) (H : Calls Tryz.prog 124 #[.string s, .int .i64 (p : Int)] w (RdC w v n)) :
    Calls Tryz.prog 119 #[.string s, .int .i64 (p : Int), .string (txt R)] w (RdC w v n) := by
  have HE := hidden H
  obtain ⟨p1, x1⟩ := h1
  have x1 : ((s[p]'p1).toNat : Int) = 92 := x1
  have q0 : decide ((s.size : Int) ≤ (p : Int)) = false := decide_eq_false (by omega)
  have q0' : decide (s.size ≤ p) = false := decide_eq_false (by omega)
  generalize txt R = T at *
  clear H
  go_enter Tryz.func119, Tryz.ntmps119
  go_wp2_with fail
  refine HE.out.mono ?_
  rintro e w1 ⟨rfl, hb1⟩
  go_wp2
  go_ret3
  exact ⟨rfl, hb1⟩
end Go.Proofs.YtnjjbaodfjmiaaaGreat

/- The reference's reader: a class of one range, an atom that is a class. -/
namespace Go.Proofs.YtnjjbaodfjmiaaaGreat
open Go.RowKit Go.Lib Go.Joins

theorem results_cell_and2 {fn : Func} {p u z : Tmp} {ty : TypeId} (h : fn.results = #[.cell p ty, .tmp u, .tmp z]) (tmps : Array Value) (P : Program) (w : World) :
    (results fn tmps).run P w = ((asAddr (tmps.getD p undef)).run P w).andThen fun a w₁ => ((loadVar ty a).run P w₁).andThen fun v w₂ => .ok (.tuple #[v, tmps.getD u undef, tmps.getD z undef]) w₂ := by
  simp only [results, h]
  simp [Sem.run_bind, Result.andThen]
/-- results: a set in memory, and two values -/
theorem ret_set3 {fn : Func} {R : Ending → World → Prop} {a : Act} {w : World} {B p u z : Nat} {f g : Nat → Bool} {x y : Value} (hf : fn.results = #[.cell p 103, .tmp u, .tmp z]) (hp : a.tmps.getD p undef = .pointer (some ⟨B, 0, none⟩))
    (hu : a.tmps.getD u undef = x) (hz : a.tmps.getD z undef = y) (hd : a.defers = []) (hS : SetAt w B f) (e : ∀ n, n < 256 → f n = g n) (hR : R (.returned (.tuple #[(.agg #[.int .u64 (word (g) 0), .int .u64 (word (g) 1), .int .u64 (word (g) 2), .int .u64 (word (g) 3)]), x, y])) w) : bodyPost Tryz.prog fn R .ret a w := by
  have hl := run_loadVar_row (P := Tryz.prog) w B 103 103 _ (0, 0) _ (hS.congr e) Tryz.underlying103 rfl (by kernel_rfl)
  refine bodyPost_ret (v := .tuple #[(.agg #[.int .u64 (word (g) 0), .int .u64 (word (g) 1), .int .u64 (word (g) 2), .int .u64 (word (g) 3)]), x, y]) ?_ hd hR
  rw [results_cell_and2 hf, hp, hu, hz]
  simp [asAddr, hl, Result.andThen]
/-- what a class answers -/
def RdK (w : World) (f : Nat → Bool) (n : Nat) (e : Ending) (w' : World) : Prop := e = .returned (.tuple #[(.agg #[.int .u64 (word (f) 0), .int .u64 (word (f) 1), .int .u64 (word (f) 2), .int .u64 (word (f) 3)]), .int .i64 (n : Int), .bool true]) ∧ Below w.heap.size w w'
def clR (tu : Bool) (lo hi : Nat) : Nat → Bool := if tu then fNot (fTwo 0 fNone (fSpan lo hi)) else fTwo 0 fNone (fSpan lo hi)
def RC : List UInt8 := [91, 93, 94, 45]
set_option maxHeartbeats 8000000 in
set_option maxRecDepth 100000 in
theorem rclass_calls (s : ByteArray) (p i0 n1 n2 lo hi : Nat) (tu : Bool) (w : World) (hs : s.size ≤ 1000) (c : UInt8) (hc : At s (p + 1) c) (ht : if tu then c = 94 ∧ i0 = p + 2 else c ≠ 94 ∧ i0 = p + 1)
    (H1 : ∀ W, Calls Tryz.prog 119 #[.string s, .int .i64 (i0 : Int), .string (txt RC)] W (RdC W lo n1)) (h45 : At s n1 45)
    (H2 : ∀ W, Calls Tryz.prog 119 #[.string s, .int .i64 ((n1 + 1 : Nat) : Int), .string (txt RC)] W (RdC W hi n2)) (h93 : At s n2 93) (hlh : lo ≤ hi) (hhi : hi < 256) :
    Calls Tryz.prog 118 #[.string s, .int .i64 (p : Int)] w (RdK w (clR tu lo hi) (n2 + 1)) := by
  have HC1 := hidden H1
  have HC2 := hidden H2
  obtain ⟨p1, x1⟩ := hc
  obtain ⟨p2, x2⟩ := h45
  obtain ⟨p3, x3⟩ := h93
  have x2 : ((s[n1]'p2).toNat : Int) = 45 := x2
  have x3 : ((s[n2]'p3).toNat : Int) = 93 := x3
  have a1 : IntKind.i64.wrap ((p : Int) + 1) = (p : Int) + 1 := by rw [IntKind.wrap_i64]; omega
  have a2 : IntKind.i64.wrap ((p : Int) + 1 + 1) = ((p + 2 : Nat) : Int) := by rw [IntKind.wrap_i64]; omega
  have a3 : IntKind.i64.wrap ((n1 : Int) + 1) = ((n1 + 1 : Nat) : Int) := by rw [IntKind.wrap_i64]; omega
  have a4 : IntKind.i64.wrap ((n2 : Int) + 1) = ((n2 + 1 : Nat) : Int) := by rw [IntKind.wrap_i64]; omega
  have b1 : IntKind.i64.wrap (lo : Int) = lo := by rw [IntKind.wrap_i64]; omega
  have b2 : IntKind.i64.wrap (hi : Int) = hi := by rw [IntKind.wrap_i64]; omega
  have q1 : decide ((p : Int) + 1 < (s.size : Int)) = true := decide_eq_true (by omega)
  have q2 : decide ((n1 : Int) < (s.size : Int)) = true := decide_eq_true (by omega)
  have q2' : decide (n1 < s.size) = true := decide_eq_true (by omega)
  have q3 : decide ((s.size : Int) ≤ (n2 : Int)) = false := decide_eq_false (by omega)
  have q3' : decide (s.size ≤ n2) = false := decide_eq_false (by omega)
  have q4 : decide ((hi : Int) < (lo : Int)) = false := decide_eq_false (by omega)
  have q4' : decide (hi < lo) = false := decide_eq_false (by omega)
  have HSP := hidden (fun W => rspan_calls lo hi W)
  have HTW := hidden (fun W => two_calls 0 fNone (fSpan lo hi) W (.inl rfl))
  have HNT := hidden (fun W => rnot_calls (fTwo 0 fNone (fSpan lo hi)) W)
  have HTU := hidden ht
  clear H1 H2 ht hlh hhi
  have HC2 := hidden (show ∀ W, Calls Tryz.prog 119 #[.string s, .int .i64 ((n1 : Int) + 1), .string ⟨#[91, 93, 94, 45]⟩] W (RdC W hi n2) from HC2.out)
  cases tu
  case' true =>
    obtain ⟨c1, rfl⟩ := HTU.out
    have HC1 := hidden (show ∀ W, Calls Tryz.prog 119 #[.string s, .int .i64 ((p : Int) + 2), .string ⟨#[91, 93, 94, 45]⟩] W (RdC W lo n1) from HC1.out)
    have e1 : ((c.toNat : Int) == 94) = true := by rw [c1]; rfl
    generalize (c.toNat : Int) = cn at *
    clear c1
  case' false =>
    obtain ⟨c1, rfl⟩ := HTU.out
    have HC1 := hidden (show ∀ W, Calls Tryz.prog 119 #[.string s, .int .i64 ((p : Int) + 1), .string ⟨#[91, 93, 94, 45]⟩] W (RdC W lo n1) from HC1.out)
    have e1 : ((c.toNat : Int) == 94) = false := toNat_ne (d := 94) c1
    generalize (c.toNat : Int) = cn at *
    clear c1
  · clear HTU
    go_enter Tryz.func118, Tryz.ntmps118
    go_wp2
    go_loopw [7, 10, 11, 12, 13, 14, 15, 16, 17] (fun i it _ _ _ _ _ _ _ wr => ∃ (k q : Nat) (f : Nat → Bool), i = .int .i64 (q : Int) ∧ it = .int .i64 (k : Int) ∧ Hid ((k = 0 ∧ q = p + 1 ∧ f = fNone) ∨ (k = 1 ∧ q = n2 ∧ f = fTwo 0 fNone (fSpan lo hi))) ∧ SetAt wr w.heap.size fNone ∧ SetAt wr (w.heap.size + 1) f ∧ Below w.heap.size w wr) (fun _ it _ _ _ _ _ _ _ _ => 1 - (RowKit.intOf it).toNat)
    case atStart =>
      exact ⟨0, p + 1, fNone, by go_num, rfl, hidden (.inl ⟨rfl, rfl, rfl⟩), (new2 w).1, (new2 w).2, by go_grown⟩
    case round =>
      obtain ⟨k, q, f, rfl, rfl, hk, hA, hF, hb⟩ := hrel
      rcases hk.out with ⟨rfl, rfl, rfl⟩ | ⟨rfl, rfl, rfl⟩
      · have HA := hidden hA
        have HF := hidden hF
        have HB := hidden hb
        clear hA hF hb hk
        go_wp2_with fail
        refine (HC1.out _).mono ?_
        rintro e w1 ⟨rfl, hb1⟩
        have HA1 := hidden (HA.out.below hb1)
        have HF1 := hidden (HF.out.below hb1)
        have HB1 := hidden (below_then HB.out HB.out.size hb1)
        clear HA HF HB hb1
        go_wp2_with fail
        refine (HC2.out _).mono ?_
        rintro e w2 ⟨rfl, hb2⟩
        have HA2 := hidden (HA1.out.below hb2)
        have HF2 := hidden (HF1.out.below hb2)
        have HB2 := hidden (below_then HB1.out HB1.out.size hb2)
        clear HA1 HF1 HB1 hb2
        obtain ⟨z0, z1, z2, z3, _, _, _, _⟩ := HF2.out.facts
        go_wp2
        go_region_with (first
          | (go_at_call 122; refine (HSP.out _).mono ?_; rintro e w3 ⟨rfl, hb3⟩; have hF3 := (SetAt.drew HF2.out).below hb3; have HF3 := hidden hF3; have HA3 := hidden ((SetAt.drew HA2.out).below hb3); have HB3 := hidden (below_then HB2.out.drew (show w.heap.size ≤ w2.drew.heap.size from HB2.out.size) hb3); clear hb3; obtain ⟨c0, c1, c2, c3, f0, f1, f2, f3⟩ := hF3.facts; clear hF3)
          | (go_at_call 121; refine (HTW.out _).mono ?_; rintro e w4 ⟨rfl, hb4⟩; have hF4 := HF3.out.below hb4; have HA4 := hidden (HA3.out.below hb4); have HB4 := hidden (below_then HB3.out HB3.out.size hb4); clear hb4; obtain ⟨d0, d1, d2, d3, g0, g1, g2, g3⟩ := hF4.facts; have HF4 := hidden hF4; clear hF4))
        all_goals
          go_wp2
          go_roundw
          case rel => exact ⟨1, n2, _, rfl, rfl, hidden (.inr ⟨rfl, rfl, rfl⟩), set_other HA4.out (by omega) _ _ _ _, HF4.out.stored, below_cells HB4.out _ (by omega) _ _ _ _⟩
          case measure => simp [RowKit.intOf]
      · have HA := hidden hA
        have HF := hidden hF
        have HB := hidden hb
        obtain ⟨z0, z1, z2, z3, z4, z5, z6, z7⟩ := hF.facts
        obtain ⟨y0, y1, y2, y3, y4, y5, y6, y7⟩ := hA.facts
        clear hA hF hb hk
        go_wp2
        refine ret_set3 Tryz.results118 rfl rfl rfl rfl (SetAt.stored (g := fTwo 0 fNone (fSpan lo hi)) HA.out) (fun n hn => rfl) ⟨by go_num, below_cells HB.out _ (Nat.le_refl _) _ _ _ _⟩
  · clear HTU
    go_enter Tryz.func118, Tryz.ntmps118
    go_wp2
    go_loopw [7, 10, 11, 12, 13, 14, 15, 16, 17] (fun i it _ _ _ _ _ _ _ wr => ∃ (k q : Nat) (f : Nat → Bool), i = .int .i64 (q : Int) ∧ it = .int .i64 (k : Int) ∧ Hid ((k = 0 ∧ q = p + 2 ∧ f = fNone) ∨ (k = 1 ∧ q = n2 ∧ f = fTwo 0 fNone (fSpan lo hi))) ∧ SetAt wr w.heap.size fNone ∧ SetAt wr (w.heap.size + 1) f ∧ Below w.heap.size w wr) (fun _ it _ _ _ _ _ _ _ _ => 1 - (RowKit.intOf it).toNat)
    case atStart =>
      exact ⟨0, p + 2, fNone, by go_num, rfl, hidden (.inl ⟨rfl, rfl, rfl⟩), (new2 w).1, (new2 w).2, by go_grown⟩
    case round =>
      obtain ⟨k, q, f, rfl, rfl, hk, hA, hF, hb⟩ := hrel
      rcases hk.out with ⟨rfl, rfl, rfl⟩ | ⟨rfl, rfl, rfl⟩
      · have HA := hidden hA
        have HF := hidden hF
        have HB := hidden hb
        clear hA hF hb hk
        go_wp2_with fail
        refine (HC1.out _).mono ?_
        rintro e w1 ⟨rfl, hb1⟩
        have HA1 := hidden (HA.out.below hb1)
        have HF1 := hidden (HF.out.below hb1)
        have HB1 := hidden (below_then HB.out HB.out.size hb1)
        clear HA HF HB hb1
        go_wp2_with fail
        refine (HC2.out _).mono ?_
        rintro e w2 ⟨rfl, hb2⟩
        have HA2 := hidden (HA1.out.below hb2)
        have HF2 := hidden (HF1.out.below hb2)
        have HB2 := hidden (below_then HB1.out HB1.out.size hb2)
        clear HA1 HF1 HB1 hb2
        obtain ⟨z0, z1, z2, z3, _, _, _, _⟩ := HF2.out.facts
        go_wp2
        go_region_with (first
          | (go_at_call 122; refine (HSP.out _).mono ?_; rintro e w3 ⟨rfl, hb3⟩; have hF3 := (SetAt.drew HF2.out).below hb3; have HF3 := hidden hF3; have HA3 := hidden ((SetAt.drew HA2.out).below hb3); have HB3 := hidden (below_then HB2.out.drew (show w.heap.size ≤ w2.drew.heap.size from HB2.out.size) hb3); clear hb3; obtain ⟨c0, c1, c2, c3, f0, f1, f2, f3⟩ := hF3.facts; clear hF3)
          | (go_at_call 121; refine (HTW.out _).mono ?_; rintro e w4 ⟨rfl, hb4⟩; have hF4 := HF3.out.below hb4; have HA4 := hidden (HA3.out.below hb4); have HB4 := hidden (below_then HB3.out HB3.out.size hb4); clear hb4; obtain ⟨d0, d1, d2, d3, g0, g1, g2, g3⟩ := hF4.facts; have HF4 := hidden hF4; clear hF4))
        all_goals
          go_wp2
          go_roundw
          case rel => exact ⟨1, n2, _, rfl, rfl, hidden (.inr ⟨rfl, rfl, rfl⟩), set_other HA4.out (by omega) _ _ _ _, HF4.out.stored, below_cells HB4.out _ (by omega) _ _ _ _⟩
          case measure => simp [RowKit.intOf]
      · have HA := hidden hA
        have HF := hidden hF
        have HB := hidden hb
        obtain ⟨z0, z1, z2, z3, z4, z5, z6, z7⟩ := hF.facts
        obtain ⟨y0, y1, y2, y3, y4, y5, y6, y7⟩ := hA.facts
        clear hA hF hb hk
        go_wp2_with fail
        refine (HNT.out _).mono ?_
        rintro e w3 ⟨rfl, hb3⟩
        have hF3 := HF.out.below hb3
        have hA3 := HA.out.below hb3
        have HA3 := hidden hA3
        have HB3 := hidden (below_then HB.out HB.out.size hb3)
        clear hb3 z0 z1 z2 z3 z4 z5 z6 z7 y0 y1 y2 y3 y4 y5 y6 y7
        obtain ⟨z0, z1, z2, z3, z4, z5, z6, z7⟩ := hF3.facts
        obtain ⟨y0, y1, y2, y3, y4, y5, y6, y7⟩ := hA3.facts
        clear hF3 hA3
        go_wp2
        refine ret_set3 Tryz.results118 rfl rfl rfl rfl (SetAt.stored (g := fNot (fTwo 0 fNone (fSpan lo hi))) (set_other HA3.out (by omega) _ _ _ _)) (fun n hn => rfl) ⟨by go_num, below_cells (below_cells HB3.out _ (by omega) _ _ _ _) _ (Nat.le_refl _) _ _ _ _⟩
set_option maxHeartbeats 2000000 in
set_option maxRecDepth 100000 in
theorem ratom_class (s : ByteArray) (p n : Nat) (f : Nat → Bool) (w : World) (hat : At s p 91) (H : ∀ W, Calls Tryz.prog 118 #[.string s, .int .i64 (p : Int)] W (RdK W f n)) :
    Calls Tryz.prog 102 #[.string s, .int .i64 (p : Int)] w (Rd w [sStp f] n) := by
  have HK := hidden H
  have HQ := hidden (fun w => rset_fn f w)
  obtain ⟨hp, hx⟩ := hat
  have hx : ((s[p]'hp).toNat : Int) = 91 := hx
  have q0 : decide ((p : Int) < (s.size : Int)) = true := decide_eq_true (by omega)
  have q0' : decide (p < s.size) = true := decide_eq_true (by omega)
  clear H
  go_enter Tryz.func102, Tryz.ntmps102
  go_wp2_with fail
  refine (HK.out _).mono ?_
  rintro e w1 ⟨rfl, hb1⟩
  go_wp2_with fail
  refine (HQ.out _).mono ?_
  rintro e w2 ⟨v, rfl, hr, hb2⟩
  obtain ⟨a1, l1, c1, rfl⟩ := rowX_slice hr
  go_wp2
  go_ret3
  have hb := hb1.alloc hb1.size (.cells #[.int .u64 (word (f) 0), .int .u64 (word (f) 1), .int .u64 (word (f) 2), .int .u64 (word (f) 3)] 103)
  exact ⟨_, rfl, hr.lower hb.size, below_after hb hb2⟩
end Go.Proofs.YtnjjbaodfjmiaaaGreat

/- Strictly rising lists of numbers: what a merge does with two, what putting a number in makes. Of no program. -/
namespace Go.Proofs.YtnjjbaodfjmiaaaGreat

def Up (l : List Int) : Prop := l.Pairwise (· < ·)
theorem up_nil : Up [] := List.Pairwise.nil
theorem up_ext : ∀ {a b : List Int}, Up a → Up b → (∀ x, x ∈ a ↔ x ∈ b) → a = b
  | [], [], _, _, _ => rfl
  | [], y :: b, _, _, h => by have := (h y).2 (by simp); simp at this
  | x :: a, [], _, _, h => by have := (h x).1 (by simp); simp at this
  | x :: a, y :: b, ha, hb, h => by
    have ha' := List.pairwise_cons.1 ha
    have hb' := List.pairwise_cons.1 hb
    have hxy : x = y := by
      have h1 := (h x).1 (by simp)
      have h2 := (h y).2 (by simp)
      simp only [List.mem_cons] at h1 h2
      rcases h1 with e | e
      · exact e
      · rcases h2 with e2 | e2
        · exact e2.symm
        · have := hb'.1 x e
          have := ha'.1 y e2
          omega
    subst hxy
    rw [up_ext ha'.2 hb'.2 fun z => ?_]
    have hz := h z
    simp only [List.mem_cons] at hz
    constructor
    · intro g
      rcases hz.1 (.inr g) with e | e
      · have := ha'.1 z g
        omega
      · exact e
    · intro g
      rcases hz.2 (.inr g) with e | e
      · have := hb'.1 z g
        omega
      · exact e
/-- what a merge does: 0: of the first alone, 1: of both, 2: of the second alone -/
def evs : List Int → List Int → List (Nat × Int)
  | [], b => b.map fun y => (2, y)
  | x :: a, [] => (x :: a).map fun y => (0, y)
  | x :: a, y :: b => if x < y then (0, x) :: evs a (y :: b) else if y < x then (2, y) :: evs (x :: a) b else (1, x) :: evs a b
termination_by a b => a.length + b.length
theorem evs_nil (b : List Int) : evs [] b = b.map fun y => (2, y) := by rw [evs]
theorem evs_none (a : List Int) : evs a [] = a.map fun y => (0, y) := by
  cases a with
  | nil => rw [evs]; rfl
  | cons x a => rw [evs]
theorem evs_lt {x y : Int} (h : x < y) (a b : List Int) : evs (x :: a) (y :: b) = (0, x) :: evs a (y :: b) := by rw [evs, if_pos h]
theorem evs_gt {x y : Int} (h : y < x) (a b : List Int) : evs (x :: a) (y :: b) = (2, y) :: evs (x :: a) b := by rw [evs, if_neg (by omega), if_pos h]
theorem evs_eq (x : Int) (a b : List Int) : evs (x :: a) (x :: b) = (1, x) :: evs a b := by rw [evs, if_neg (by omega), if_neg (by omega)]
/-- where one list is at its end -/
theorem evs_end {a b : List Int} (h : a = [] ∨ b = []) : evs a b = (a.map fun y => (0, y)) ++ b.map fun y => (2, y) := by
  rcases h with rfl | rfl
  · rw [evs_nil]; rfl
  · rw [evs_none]; simp
def Told (a b : List Int) (k : Nat) (x : Int) : Prop := (k = 0 ∧ x ∈ a ∧ x ∉ b) ∨ (k = 1 ∧ x ∈ a ∧ x ∈ b) ∨ (k = 2 ∧ x ∉ a ∧ x ∈ b)
theorem up_cons {x : Int} {a : List Int} : Up (x :: a) ↔ (∀ y ∈ a, x < y) ∧ Up a := List.pairwise_cons
theorem up_map_snd (k : Nat) (a : List Int) : (a.map fun y => (k, y)).map Prod.snd = a := by
  rw [List.map_map]
  exact (List.map_congr_left fun _ _ => rfl).trans (List.map_id a)
theorem evs_facts : ∀ (n : Nat) (a b : List Int), a.length + b.length ≤ n → Up a → Up b → Up ((evs a b).map Prod.snd) ∧ ∀ k x, (k, x) ∈ evs a b ↔ Told a b k x
  | _, [], b, _, _, hb => by
    rw [evs_nil, up_map_snd]
    refine ⟨hb, fun k x => ?_⟩
    simp only [List.mem_map, Prod.mk.injEq, Told, List.not_mem_nil, false_and, and_false, false_or, not_false_eq_true, true_and]
    constructor
    · rintro ⟨y, h, rfl, rfl⟩; exact ⟨rfl, h⟩
    · rintro ⟨rfl, h⟩; exact ⟨x, h, rfl, rfl⟩
  | _, x :: a, [], _, ha, _ => by
    rw [evs_none, up_map_snd]
    refine ⟨ha, fun k z => ?_⟩
    simp only [List.mem_map, Prod.mk.injEq, Told, List.not_mem_nil, and_false, or_false, not_false_eq_true, and_true]
    constructor
    · rintro ⟨y, h, rfl, rfl⟩; exact ⟨rfl, h⟩
    · rintro ⟨rfl, h⟩; exact ⟨z, h, rfl, rfl⟩
  | 0, x :: a, y :: b, h, _, _ => by simp at h
  | n + 1, x :: a, y :: b, h, ha, hb => by
    have ha' := up_cons.1 ha
    have hb' := up_cons.1 hb
    simp only [List.length_cons] at h
    rcases Int.lt_trichotomy x y with hxy | rfl | hxy
    · obtain ⟨i1, i2⟩ := evs_facts n a (y :: b) (by simp only [List.length_cons]; omega) ha'.2 hb
      rw [evs_lt hxy]
      have hlow : ∀ z ∈ y :: b, x < z := fun z hz => by
        rcases List.mem_cons.1 hz with rfl | hz
        · exact hxy
        · have := hb'.1 z hz; omega
      refine ⟨up_cons.2 ⟨fun z hz => ?_, i1⟩, fun k z => ?_⟩
      · obtain ⟨⟨k, w⟩, hm, rfl⟩ := List.mem_map.1 hz
        rcases (i2 k w).1 hm with h1 | h1 | h1
        · exact ha'.1 _ h1.2.1
        · exact ha'.1 _ h1.2.1
        · exact hlow _ h1.2.2
      · have hnx : x ∉ y :: b := fun hm => by have := hlow x hm; omega
        have hna : x ∉ a := fun hm => by have := ha'.1 x hm; omega
        rw [List.mem_cons, i2, Prod.mk.injEq]
        unfold Told
        constructor
        · rintro (⟨rfl, rfl⟩ | h1 | h1 | h1)
          · exact .inl ⟨rfl, by simp, hnx⟩
          · exact .inl ⟨h1.1, List.mem_cons_of_mem _ h1.2.1, h1.2.2⟩
          · exact .inr (.inl ⟨h1.1, List.mem_cons_of_mem _ h1.2.1, h1.2.2⟩)
          · refine .inr (.inr ⟨h1.1, fun hm => ?_, h1.2.2⟩)
            rcases List.mem_cons.1 hm with rfl | hm
            · exact hnx h1.2.2
            · exact h1.2.1 hm
        · rintro (h1 | h1 | h1)
          · rcases List.mem_cons.1 h1.2.1 with rfl | hm
            · exact .inl ⟨h1.1, rfl⟩
            · exact .inr (.inl ⟨h1.1, hm, h1.2.2⟩)
          · rcases List.mem_cons.1 h1.2.1 with rfl | hm
            · exact absurd h1.2.2 hnx
            · exact .inr (.inr (.inl ⟨h1.1, hm, h1.2.2⟩))
          · exact .inr (.inr (.inr ⟨h1.1, fun hm => h1.2.1 (List.mem_cons_of_mem _ hm), h1.2.2⟩))
    · obtain ⟨i1, i2⟩ := evs_facts n a b (by omega) ha'.2 hb'.2
      rw [evs_eq]
      have hna : x ∉ a := fun hm => by have := ha'.1 x hm; omega
      have hnb : x ∉ b := fun hm => by have := hb'.1 x hm; omega
      refine ⟨up_cons.2 ⟨fun z hz => ?_, i1⟩, fun k z => ?_⟩
      · obtain ⟨⟨k, w⟩, hm, rfl⟩ := List.mem_map.1 hz
        rcases (i2 k w).1 hm with h1 | h1 | h1
        · exact ha'.1 _ h1.2.1
        · exact ha'.1 _ h1.2.1
        · exact hb'.1 _ h1.2.2
      · rw [List.mem_cons, i2, Prod.mk.injEq]
        unfold Told
        simp only [List.mem_cons, not_or]
        constructor
        · rintro (⟨rfl, rfl⟩ | h1 | h1 | h1)
          · exact .inr (.inl ⟨rfl, .inl rfl, .inl rfl⟩)
          · exact .inl ⟨h1.1, .inr h1.2.1, fun e => by subst e; exact hna h1.2.1, h1.2.2⟩
          · exact .inr (.inl ⟨h1.1, .inr h1.2.1, .inr h1.2.2⟩)
          · exact .inr (.inr ⟨h1.1, ⟨fun e => by subst e; exact hnb h1.2.2, h1.2.1⟩, .inr h1.2.2⟩)
        · rintro (h1 | h1 | h1)
          · rcases h1.2.1 with e | hm
            · exact absurd e h1.2.2.1
            · exact .inr (.inl ⟨h1.1, hm, h1.2.2.2⟩)
          · by_cases e : z = x
            · exact .inl ⟨h1.1, e⟩
            · exact .inr (.inr (.inl ⟨h1.1, h1.2.1.resolve_left e, h1.2.2.resolve_left e⟩))
          · exact .inr (.inr (.inr ⟨h1.1, h1.2.1.2, h1.2.2.resolve_left h1.2.1.1⟩))
    · obtain ⟨i1, i2⟩ := evs_facts n (x :: a) b (by simp only [List.length_cons]; omega) ha hb'.2
      rw [evs_gt hxy]
      have hlow : ∀ z ∈ x :: a, y < z := fun z hz => by
        rcases List.mem_cons.1 hz with rfl | hz
        · exact hxy
        · have := ha'.1 z hz; omega
      refine ⟨up_cons.2 ⟨fun z hz => ?_, i1⟩, fun k z => ?_⟩
      · obtain ⟨⟨k, w⟩, hm, rfl⟩ := List.mem_map.1 hz
        rcases (i2 k w).1 hm with h1 | h1 | h1
        · exact hlow _ h1.2.1
        · exact hlow _ h1.2.1
        · exact hb'.1 _ h1.2.2
      · have hny : y ∉ x :: a := fun hm => by have := hlow y hm; omega
        have hnb : y ∉ b := fun hm => by have := hb'.1 y hm; omega
        rw [List.mem_cons, i2, Prod.mk.injEq]
        unfold Told
        constructor
        · rintro (⟨rfl, rfl⟩ | h1 | h1 | h1)
          · exact .inr (.inr ⟨rfl, hny, by simp⟩)
          · refine .inl ⟨h1.1, h1.2.1, fun hm => ?_⟩
            rcases List.mem_cons.1 hm with rfl | hm
            · exact hny h1.2.1
            · exact h1.2.2 hm
          · exact .inr (.inl ⟨h1.1, h1.2.1, List.mem_cons_of_mem _ h1.2.2⟩)
          · exact .inr (.inr ⟨h1.1, h1.2.1, List.mem_cons_of_mem _ h1.2.2⟩)
        · rintro (h1 | h1 | h1)
          · exact .inr (.inl ⟨h1.1, h1.2.1, fun hm => h1.2.2 (List.mem_cons_of_mem _ hm)⟩)
          · rcases List.mem_cons.1 h1.2.2 with rfl | hm
            · exact absurd h1.2.1 hny
            · exact .inr (.inr (.inl ⟨h1.1, h1.2.1, hm⟩))
          · rcases List.mem_cons.1 h1.2.2 with rfl | hm
            · exact .inl ⟨h1.1, rfl⟩
            · exact .inr (.inr (.inr ⟨h1.1, h1.2.1, hm⟩))
/-- the events of some kinds -/
def pickV (p : Nat → Bool) (E : List (Nat × Int)) : List Int := (E.filter fun e => p e.1).map Prod.snd
theorem pick_append (p : Nat → Bool) (E F : List (Nat × Int)) : pickV p (E ++ F) = pickV p E ++ pickV p F := by simp [pickV]
theorem pick_up {p : Nat → Bool} {a b : List Int} (ha : Up a) (hb : Up b) : Up (pickV p (evs a b)) :=
  List.Pairwise.sublist ((List.filter_sublist).map Prod.snd) (evs_facts _ a b (Nat.le_refl _) ha hb).1
theorem pick_mem {p : Nat → Bool} {a b : List Int} (ha : Up a) (hb : Up b) (x : Int) : x ∈ pickV p (evs a b) ↔ (p 0 = true ∧ x ∈ a ∧ x ∉ b) ∨ (p 1 = true ∧ x ∈ a ∧ x ∈ b) ∨ (p 2 = true ∧ x ∉ a ∧ x ∈ b) := by
  have h := (evs_facts _ a b (Nat.le_refl _) ha hb).2
  unfold pickV
  constructor
  · intro hx
    obtain ⟨⟨k, z⟩, hm, rfl⟩ := List.mem_map.1 hx
    obtain ⟨h1, h2⟩ := List.mem_filter.1 hm
    rcases (h k z).1 h1 with ⟨rfl, h3⟩ | ⟨rfl, h3⟩ | ⟨rfl, h3⟩
    · exact .inl ⟨h2, h3⟩
    · exact .inr (.inl ⟨h2, h3⟩)
    · exact .inr (.inr ⟨h2, h3⟩)
  · rintro (⟨h1, h2⟩ | ⟨h1, h2⟩ | ⟨h1, h2⟩)
    · exact List.mem_map.2 ⟨(0, x), List.mem_filter.2 ⟨(h 0 x).2 (.inl ⟨rfl, h2⟩), h1⟩, rfl⟩
    · exact List.mem_map.2 ⟨(1, x), List.mem_filter.2 ⟨(h 1 x).2 (.inr (.inl ⟨rfl, h2⟩)), h1⟩, rfl⟩
    · exact List.mem_map.2 ⟨(2, x), List.mem_filter.2 ⟨(h 2 x).2 (.inr (.inr ⟨rfl, h2⟩)), h1⟩, rfl⟩
theorem evs_len : ∀ (n : Nat) (a b : List Int), a.length + b.length ≤ n → (evs a b).length ≤ a.length + b.length
  | _, [], b, _ => by rw [evs_nil]; simp
  | _, x :: a, [], _ => by rw [evs_none]; simp
  | 0, x :: a, y :: b, h => by simp at h
  | n + 1, x :: a, y :: b, h => by
    simp only [List.length_cons] at h
    rcases Int.lt_trichotomy x y with hxy | rfl | hxy
    · have := evs_len n a (y :: b) (by simp only [List.length_cons]; omega)
      rw [evs_lt hxy]
      simp only [List.length_cons] at this ⊢
      omega
    · have := evs_len n a b (by omega)
      rw [evs_eq]
      simp only [List.length_cons]
      omega
    · have := evs_len n (x :: a) b (by simp only [List.length_cons]; omega)
      rw [evs_gt hxy]
      simp only [List.length_cons] at this ⊢
      omega
theorem pick_len (p : Nat → Bool) (E : List (Nat × Int)) : (pickV p E).length ≤ E.length := by
  unfold pickV
  rw [List.length_map]
  exact List.length_filter_le _ _
/-! ### a number more -/
/-- how many stand ahead that are less -/
def lead : List Int → Int → Nat
  | [], _ => 0
  | y :: l, n => if y < n then lead l n + 1 else 0
theorem lead_le : ∀ (l : List Int) (n : Int), lead l n ≤ l.length
  | [], _ => Nat.le_refl _
  | y :: l, n => by
    have := lead_le l n
    simp only [lead, List.length_cons]
    split <;> omega
theorem lead_at : ∀ (l : List Int) (n : Int) (i : Nat), i ≤ lead l n → (i < lead l n ↔ i < l.length ∧ l.getD i 0 < n)
  | [], n, i, h => by simp [lead] at h ⊢
  | y :: l, n, i, h => by
    simp only [lead] at h ⊢
    split
    · rename_i hy
      rw [if_pos hy] at h
      cases i with
      | zero => simp [hy]
      | succ i =>
        have := lead_at l n i (by omega)
        simp only [List.length_cons, List.getD_cons_succ]
        omega
    · rename_i hy
      rw [if_neg hy] at h
      obtain rfl : i = 0 := by omega
      simp [hy]
def putV (l : List Int) (n : Int) : List Int := if n ∈ l then l else l.take (lead l n) ++ n :: l.drop (lead l n)
theorem put_cons (y n : Int) (l : List Int) (h : y < n) : putV (y :: l) n = y :: putV l n := by
  unfold putV
  have hne : n ≠ y := by omega
  simp only [List.mem_cons, hne, false_or, lead, if_pos h]
  split <;> simp
theorem put_facts : ∀ {l : List Int} {n : Int}, Up l → Up (putV l n) ∧ ∀ x, x ∈ putV l n ↔ x = n ∨ x ∈ l
  | [], n, _ => by simp [putV, lead, Up]
  | y :: l, n, hu => by
    have hu' := up_cons.1 hu
    by_cases h : y < n
    · obtain ⟨i1, i2⟩ := put_facts (n := n) hu'.2
      rw [put_cons y n l h]
      refine ⟨up_cons.2 ⟨fun z hz => ?_, i1⟩, fun x => ?_⟩
      · rcases (i2 z).1 hz with rfl | hz
        · exact h
        · exact hu'.1 z hz
      · rw [List.mem_cons, i2, List.mem_cons]
        constructor
        · rintro (h | h | h)
          · exact .inr (.inl h)
          · exact .inl h
          · exact .inr (.inr h)
        · rintro (h | h | h)
          · exact .inr (.inl h)
          · exact .inl h
          · exact .inr (.inr h)
    · unfold putV
      split
      · rename_i hm
        refine ⟨hu, fun x => ⟨fun h => .inr h, fun h => ?_⟩⟩
        rcases h with rfl | h
        · exact hm
        · exact h
      · rename_i hm
        have hne : n ≠ y := fun e => hm (by simp [e])
        simp only [lead, if_neg h, List.take_zero, List.drop_zero, List.nil_append]
        refine ⟨up_cons.2 ⟨fun z hz => ?_, hu⟩, fun x => by simp⟩
        rcases List.mem_cons.1 hz with rfl | hz
        · omega
        · have := hu'.1 z hz
          omega
theorem put_len (l : List Int) (n : Int) : (putV l n).length ≤ l.length + 1 := by
  unfold putV
  split
  · omega
  · have := lead_le l n
    simp
    omega
def putsV (l m : List Int) : List Int := m.foldl putV l
theorem puts_facts : ∀ (m : List Int) {l : List Int}, Up l → Up (putsV l m) ∧ ∀ x, x ∈ putsV l m ↔ x ∈ l ∨ x ∈ m
  | [], l, h => ⟨h, by simp [putsV]⟩
  | n :: m, l, h => by
    obtain ⟨h1, h2⟩ := put_facts (n := n) h
    obtain ⟨i1, i2⟩ := puts_facts m h1
    refine ⟨i1, fun x => ?_⟩
    have := i2 x
    unfold putsV at this ⊢
    rw [List.foldl_cons, this, h2, List.mem_cons]
    constructor
    · rintro ((h | h) | h)
      · exact .inr (.inl h)
      · exact .inl h
      · exact .inr (.inr h)
    · rintro (h | h | h)
      · exact .inl (.inr h)
      · exact .inl (.inl h)
      · exact .inr h
theorem puts_take (l m : List Int) (i : Nat) (h : i < m.length) : putsV l (m.take (i + 1)) = putV (putsV l (m.take i)) (m.getD i 0) := by
  unfold putsV
  rw [List.take_succ_eq_append_getElem h, List.foldl_append, List.getD_eq_getElem?_getD, List.getElem?_eq_getElem h]
  rfl
theorem puts_len : ∀ (m l : List Int), (putsV l m).length ≤ l.length + m.length
  | [], l => by simp [putsV]
  | n :: m, l => by
    have h1 := puts_len m (putV l n)
    have h2 := put_len l n
    unfold putsV at h1 ⊢
    rw [List.foldl_cons, List.length_cons]
    omega
/-- all numbers of a list, rising -/
def ofV (l : List Int) : List Int := putsV [] l
theorem of_facts (l : List Int) : Up (ofV l) ∧ ∀ x, x ∈ ofV l ↔ x ∈ l := by
  obtain ⟨h1, h2⟩ := puts_facts l up_nil
  exact ⟨h1, fun x => by rw [show ofV l = putsV [] l from rfl, h2]; simp⟩
theorem of_self {l : List Int} (h : Up l) : ofV l = l := up_ext (of_facts l).1 h (of_facts l).2
/-- those of a that are in b, or are not -/
def keptV (a b : List Int) (c : Bool) : List Int := a.filter fun x => decide (x ∈ b) == c
theorem kept_up {a : List Int} (h : Up a) (b : List Int) (c : Bool) : Up (keptV a b c) := List.Pairwise.sublist List.filter_sublist h
theorem union_eq {a b : List Int} (ha : Up a) (hb : Up b) : pickV (fun _ => true) (evs a b) = putsV (ofV a) b := by
  obtain ⟨h1, h2⟩ := puts_facts b (of_facts a).1
  refine up_ext (pick_up ha hb) h1 fun x => ?_
  rw [pick_mem ha hb, h2, (of_facts a).2]
  by_cases h3 : x ∈ a <;> by_cases h4 : x ∈ b <;> simp [h3, h4]
theorem common_eq {a b : List Int} (ha : Up a) (hb : Up b) : pickV (fun k => k == 1) (evs a b) = keptV a b true := by
  refine up_ext (pick_up ha hb) (kept_up ha b true) fun x => ?_
  rw [pick_mem ha hb]
  simp [keptV]
theorem less_eq {a b : List Int} (ha : Up a) (hb : Up b) : pickV (fun k => k == 0) (evs a b) = keptV a b false := by
  refine up_ext (pick_up ha hb) (kept_up ha b false) fun x => ?_
  rw [pick_mem ha hb]
  simp [keptV]
end Go.Proofs.YtnjjbaodfjmiaaaGreat
