/- 'QuotaParts' answers true for every room and every texts of bulk at most 1048576: put at once, or one by one, they come to the same. Conditions: the bulk. -/
import Derived.Test.YtcfedekcbbalcaaOutKnows
import Derived.Test.YtcfedekcbbalcaaUpto
namespace Go.Proofs.Ytcfedekcbbalcaa.lawQuotaParts
open Go.ChangeShapes Go.WideShapes Go.ChangeAt Go.RowKit
open Go.ChangeMaps (open_string shut_string)

/-- the first Out's answer: all, or none -/
theorem put_all {w : World} {B o r : Nat} {v : Value} {a : Option Addr} {len cap : Nat} {ss : List ByteArray} (h : OutAt w B o ByteArray.empty r v) (hs : Strs (Kin B o w) w a len ss) (hl : len ≤ cap) (hcap : cap ≤ maxLen) :
    ∃ (e : Int) (t : ByteArray), (if total ss ≤ r then e = 0 ∧ t = joinB ss else e = 6 ∧ t = ByteArray.empty) ∧
      Calls Try.prog 10 #[.pointer (some ⟨o, 0, none⟩), .slice a len cap] w fun e' w' => e' = .returned (.int .i64 e) ∧ Turns B o w t r w' := by
  have h0 : ByteArray.empty.size = 0 := rfl
  by_cases hr : total ss ≤ r
  · refine ⟨0, joinB ss, by rw [if_pos hr]; exact ⟨rfl, rfl⟩, ?_⟩
    have := put_calls h hs hl hcap (by omega)
    rwa [nil_bytes] at this
  · exact ⟨6, ByteArray.empty, by rw [if_neg hr]; exact ⟨rfl, rfl⟩, put_full h hs hl hcap (by omega)⟩
/-- one text put in the second Out -/
theorem put_one {w : World} {B o r : Nat} {s t : ByteArray} {v : Value} {b : Nat} (h : OutAt w B o s r v) (hb : b = w.heap.size) :
    ∃ (e : Int) (s' : ByteArray), (if s.size + t.size ≤ r then e = 0 ∧ s' = s ++ t else e = 6 ∧ s' = s) ∧
      Calls Try.prog 10 #[.pointer (some ⟨o, 0, none⟩), .slice (some ⟨b, 0, none⟩) 1 1] (w.alloc (.cells #[.string t] 9)) fun e' w' => e' = .returned (.int .i64 e) ∧ Turns B o (w.alloc (.cells #[.string t] 9)) s' r w' := by
  have hS := strs_new (B := B) (o := o) (b := b) (w := w) [t] 1 rfl h.lt hb
  have ht : total [t] = t.size := by simp [total]
  have hj : joinB [t] = t := by simp [joinB]
  by_cases hr : s.size + t.size ≤ r
  · refine ⟨0, s ++ t, by rw [if_pos hr]; exact ⟨rfl, rfl⟩, ?_⟩
    have := put_calls (h.alloc _) hS (Nat.le_refl 1) (by decide) (by omega)
    rwa [hj] at this
  · exact ⟨6, s, by rw [if_neg hr]; exact ⟨rfl, rfl⟩, put_full (h.alloc _) hS (Nat.le_refl 1) (by decide) (by omega)⟩

/-- how the second Out stands behind k texts -/
def Half (ss : List ByteArray) (r k : Nat) (f : Bool) (s : ByteArray) : Prop := (total (ss.take k) ≤ r → f = true ∧ s = joinB (ss.take k)) ∧ (r < total (ss.take k) → f = false)

theorem half_ok {ss : List ByteArray} {r k : Nat} {f : Bool} {s : ByteArray} (h : Half ss r k f s) (hk : k < ss.length) (hr : s.size + (ss.getD k ByteArray.empty).size ≤ r) : Half ss r (k + 1) f (s ++ ss.getD k ByteArray.empty) := by
  have h1 := total_take ss k hk
  have h2 := joinB_take ss k hk
  refine ⟨fun h3 => ?_, fun h3 => ?_⟩
  · obtain ⟨rfl, rfl⟩ := h.1 (by omega)
    exact ⟨rfl, h2.symm⟩
  · by_cases h4 : total (ss.take k) ≤ r
    · obtain ⟨rfl, rfl⟩ := h.1 h4
      rw [joinB_size] at hr
      omega
    · exact h.2 (by omega)
theorem half_no {ss : List ByteArray} {r k : Nat} {f : Bool} {s : ByteArray} (h : Half ss r k f s) (hk : k < ss.length) (hr : r < s.size + (ss.getD k ByteArray.empty).size) : Half ss r (k + 1) false s := by
  have h1 := total_take ss k hk
  refine ⟨fun h3 => ?_, fun _ => rfl⟩
  obtain ⟨rfl, rfl⟩ := h.1 (by omega)
  rw [joinB_size] at hr
  omega

set_option maxHeartbeats 4000000 in
set_option maxRecDepth 100000 in
theorem walk (c : Int) (a : Option Addr) (len cap : Nat) (ss : List ByteArray) (w : World) (hc : 0 ≤ c ∧ c ≤ 255) (hz : len ≤ cap ∧ cap ≤ maxLen ∧ (∀ s ∈ ss, s.size ≤ maxLen) ∧ Strs (fun b => b < w.heap.size) w a len ss) (hu : total ss ≤ 1048576) :
    Calls Try.prog 4 #[.int .u8 c, .slice a len cap] w fun e w' => e = .returned (.bool true) ∧ Below w.heap.size w w' := by
  obtain ⟨r, rfl⟩ := Int.eq_ofNat_of_zero_le hc.1
  obtain ⟨hl, hcap, _, hs⟩ := hz
  have hr : r ≤ 255 := by omega
  have N2 := hidden (fun W => new_calls r W (by omega))
  have hO := (OutAt.fresh (B := w.heap.size + 2) (r := r) (heap_alloc2_old w (.cells #[.slice none 0 0, .int .i64 r] 56) (.cells #[.slice none 0 0, .int .i64 r] 56)) (by simp) (by omega))
  have hP := (heap_alloc2_new w (.cells #[.slice none 0 0, .int .i64 r] 56) (.cells #[.slice none 0 0, .int .i64 r] 56))
  have hS : Strs (Kin (w.heap.size + 2) w.heap.size ((w.alloc (.cells #[.slice none 0 0, .int .i64 r] 56)).alloc (.cells #[.slice none 0 0, .int .i64 r] 56))) ((w.alloc (.cells #[.slice none 0 0, .int .i64 r] 56)).alloc (.cells #[.slice none 0 0, .int .i64 r] 56)) a len ss :=
    hs.below fun b hb => ⟨⟨by simp; omega, by omega, .inl (by omega)⟩, by rw [heap_alloc_old _ _ (by simp; omega), heap_alloc_old _ _ hb]⟩
  obtain ⟨e1, t1, hE, hput⟩ := put_all hO hS hl hcap
  have HE := hidden hE
  have HP1 := hidden hput
  have HP := hidden hP
  have HS := hidden hs
  have hmax : cap ≤ 9223372036854775807 := hcap
  clear hO hS hE hput hP hs hcap
  go_enter Try.func4, Try.ntmps4
  go_wp2_with fail
  refine (N2.out _).mono ?_
  rintro e w' ⟨rfl, rfl⟩
  go_wp2_with fail
  refine (N2.out _).mono ?_
  rintro e w' ⟨rfl, rfl⟩
  go_wp2_with fail
  refine HP1.out.mono ?_
  rintro e w3 ⟨rfl, ⟨v3, ha⟩, hs3⟩
  have kin : Kin (w.heap.size + 2) w.heap.size ((w.alloc (.cells #[.slice none 0 0, .int .i64 r] 56)).alloc (.cells #[.slice none 0 0, .int .i64 r] 56)) (w.heap.size + 1) := ⟨by simp, by omega, .inl (by omega)⟩
  have hb3 := (hs3.block _ kin).trans HP.out
  have hB3 := hs3.behind (n := w.heap.size) (a := w) (by go_grown) (by omega) (by omega) (by simp; omega)
  have hrow : ∀ g, v3.ownBlock = some g → g < w3.heap.size ∧ g ≠ w.heap.size + 1 := fun g hg => ⟨(ha.own.lt g hg).2, fun e => row_ne ha.own hb3 (by rw [hg, e])⟩
  have hO3 := OutAt.fresh (B := w3.heap.size) hb3 (Nat.le_refl _) (by omega)
  have HA := hidden ha
  have HB3 := hidden hB3
  have HR := hidden hrow
  have HO3 := hidden hO3
  have hw3 := ha.lt
  clear kin hb3 ha hB3 hrow hO3 hs3
  go_wp2
  go_loopw [10, 11, 12] (fun x f i wr => ∃ (k : Nat) (fb : Bool) (s : ByteArray), k ≤ len ∧ i = .int .i64 k ∧ x = .string (joinB (ss.take k)) ∧ f = .bool fb ∧ Half ss r k fb s ∧ Turns w3.heap.size (w.heap.size + 1) w3 s r wr) (fun _ _ i _ => len - (intOf i).toNat)
  case atStart => exact ⟨0, true, ByteArray.empty, by omega, rfl, rfl, rfl, ⟨fun _ => ⟨rfl, rfl⟩, fun h => by simp [total] at h⟩, Turns.keeps HO3.out⟩
  case round =>
    obtain ⟨k, fb, s, hk, rfl, rfl, rfl, hh, ⟨v, ho⟩, hsv⟩ := hrel
    have HH := hidden hh
    have HO := hidden ho
    have HV := hidden hsv
    have hw4 := hsv.size
    have hol := ho.lt
    have hJ : (joinB (ss.take k)).size ≤ 1048576 := by
      rw [joinB_size]
      have := total_le ss k
      omega
    clear hh ho hsv
    by_cases hlt : k < len
    · obtain ⟨b, off, rfl, hbl, hcs⟩ := HS.out.2 (by omega)
      have hck : wr.cell? ⟨b, off + k, none⟩ = some (.string (ss.getD k ByteArray.empty)) := by
        rw [HV.out.cell (p := ⟨b, off + k, none⟩) ⟨by show b < _; omega, by show b ≠ _; omega, .inl (by show b < _; omega)⟩, HB3.out.cell (p := ⟨b, off + k, none⟩) hbl]
        exact hcs k hlt
      have hj := hidden (joinB_take ss k (by rw [HS.out.1]; exact hlt))
      have hkl := hidden (show k < ss.length by rw [HS.out.1]; exact hlt)
      have ht : (ss.getD k ByteArray.empty).size ≤ 1048576 := by
        have h1 := total_take ss k hkl.out
        have h2 := total_le ss (k + 1)
        omega
      have h1 := hidden (half_ok HH.out hkl.out)
      have h2 := hidden (half_no HH.out hkl.out)
      obtain ⟨e2, s', hE2, hput2⟩ := put_one (t := ss.getD k ByteArray.empty) HO.out (rfl : wr.heap.size = wr.heap.size)
      have HP2 := hidden hput2
      have hlk : decide ((k : Int) < len) = true := by simp; omega
      have hS1 := hidden (Save.of_below (B := w3.heap.size) (o := w.heap.size + 1) ((Below.refl wr.heap.size wr).alloc (Nat.le_refl _) (.cells #[.string (ss.getD k ByteArray.empty)] 9)))
      clear hcs hput2 hbl
      generalize ss.getD k ByteArray.empty = t at hck hj ht h1 h2 HP2 hE2 hS1
      by_cases hq : s.size + t.size ≤ r
      · rw [if_pos hq] at hE2
        obtain ⟨rfl, rfl⟩ := hE2
        have H1 := hidden (h1.out hq)
        clear hq h1 h2
        generalize joinB (ss.take k) = J at hJ hj
        go_wp2_with fail
        refine HP2.out.mono ?_
        rintro e w5 ⟨rfl, ht5⟩
        have T5 := hidden (Turns.after (HV.out.trans hS1.out) ht5)
        clear ht5
        go_wp2
        go_roundw
        case rel => exact ⟨k + 1, fb, _, by omega, by go_num, by rw [hj.out], rfl, H1.out, T5.out⟩
        case measure => simp [intOf]; omega
      · rw [if_neg hq] at hE2
        obtain ⟨rfl, rfl⟩ := hE2
        have H1 := hidden (h2.out (by omega))
        clear hq h1 h2
        generalize joinB (ss.take k) = J at hJ hj
        go_wp2_with fail
        refine HP2.out.mono ?_
        rintro e w5 ⟨rfl, ht5⟩
        have T5 := hidden (Turns.after (HV.out.trans hS1.out) ht5)
        clear ht5
        go_wp2
        go_roundw
        case rel => exact ⟨k + 1, false, _, by omega, by go_num, by rw [hj.out], rfl, H1.out, T5.out⟩
        case measure => simp [intOf]; omega
    · have hlk : decide ((k : Int) < len) = false := by simp; omega
      have hfull : ss.take k = ss := List.take_of_length_le (by rw [HS.out.1]; omega)
      have hh := HH.out
      unfold Half at hh
      rw [hfull] at hh
      rw [hfull] at hJ ⊢
      have hA := HA.out.other HV.out (by omega) HR.out
      have TA := hidden (text_calls hA)
      have TB := hidden (text_calls HO.out)
      have HB4 := hidden (HV.out.behind (n := w.heap.size) (a := w) HB3.out (by omega) (by omega) (by omega))
      clear hA
      have hj := joinB_size ss
      by_cases hq : total ss ≤ r
      · have hE := HE.out
        rw [if_pos hq] at hE
        obtain ⟨rfl, rfl⟩ := hE
        obtain ⟨rfl, rfl⟩ := hh.1 hq
        have hd : decide ((r : Int) < (joinB ss).size) = false := by simp; omega
        have hd2 : decide (r < (joinB ss).size) = false := by simp; omega
        have hte := text_same (joinB ss)
        clear hh hq hj hfull
        generalize joinB ss = J at *
        go_wp2_with fail
        refine TA.out.mono ?_
        rintro e w' ⟨rfl, rfl⟩
        go_wp2_with fail
        refine TB.out.mono ?_
        rintro e w' ⟨rfl, rfl⟩
        go_wp2_with fail
        refine (knows_calls _).mono ?_
        rintro e w6 ⟨rfl, hb6⟩
        go_wp2
        go_ret
        exact ⟨rfl, below_then HB4.out (by omega) hb6⟩
      · have hE := HE.out
        rw [if_neg hq] at hE
        obtain ⟨rfl, rfl⟩ := hE
        obtain rfl := hh.2 (by omega)
        have hd : decide ((r : Int) < (joinB ss).size) = true := by simp; omega
        have hd2 : decide (r < (joinB ss).size) = true := by simp; omega
        clear hh hq hj hfull
        generalize joinB ss = J at *
        go_wp2_with fail
        refine TA.out.mono ?_
        rintro e w' ⟨rfl, rfl⟩
        go_wp2_with fail
        refine (knows_calls _).mono ?_
        rintro e w6 ⟨rfl, hb6⟩
        go_wp2
        go_ret
        exact ⟨rfl, below_then HB4.out (by omega) hb6⟩

set_option maxRecDepth 100000 in
theorem lifted (os : Os) (started : os.Started) (H : Type) (enc : TypeId × Value → H) (F : Stop.Interp) :
    ReturnsInHanded {} Try.checked os 4 .any ((Rows.OpenSpec.upto Rows.quotaPartsSpec).pre6 enc Try.prog Try.f4 Rows.quotaPartsUptoRow.domain false) (((Rows.OpenSpec.upto Rows.quotaPartsSpec).at F).post enc Try.prog Try.f4 false true false false) := by
  refine returnsInHanded_of_cond (C := Try.checked) (s := Rows.OpenSpec.upto Rows.quotaPartsSpec) (k := Rows.uptoSmall) rfl own started (by kernel_rfl) Try.func4
    (OpenSpec.witness (enc := enc) (C := Try.checked) (s := Rows.OpenSpec.upto Rows.quotaPartsSpec) (k := Rows.uptoSmall) rfl false ⟨#[], #[.int .u8 0, .slice none 0 0], []⟩ 8 (by kernel_rfl) (by kernel_rfl) (by kernel_rfl)
      (x := ([.lit (.int .u8 0), .nil], [], [])) (by kernel_rfl) rfl (by kernel_rfl)) ?_
  intro W base args ds gs before hval0 hW _ hk _
  have hval : ∀ (j : Nat) t v, Try.f4.params[j]? = some t → args[j]? = some v → Value.okWide Try.prog W .any base t v := hval0
  have hW' : DataW.Whole enc Try.prog Try.f4.params.toList Rows.quotaPartsSpec.vars false W args.toList ds gs before := hW
  obtain ⟨p, q, hA0, hV, rfl, hfz, hnd⟩ := hW
  have hA : DataW.TrodAll enc Try.prog W 0 (fun _ => true) true Try.f4.params.toList args.toList ds p := hA0
  rw [Try.params4] at hA hval
  obtain ⟨v0, vs0, d0, ds0, p0, q0, hargs, hd0, hp0, h0, r0⟩ := trodAll_cons hA
  obtain ⟨v1, vs1, d1, ds1, p1, q1, rfl, hd1, hp1, h1, r1⟩ := trodAll_cons r0
  obtain ⟨rfl, _, _⟩ := trodAll_nil r1
  obtain rfl : args = #[v0, v1] := by cases args; simp_all
  obtain ⟨a0, rfl, _, _, w0⟩ := open_int Try.underlying5 (hval 0 5 v0 rfl rfl) h0
  obtain ⟨a1, len1, cap1, rfl⟩ := okWide_slice Try.underlying33 (hval 1 33 v1 rfl rfl)
  obtain ⟨z1, w1, s1⟩ := open_slice_strs Try.underlying33 Try.underlying9 (by kernel_rfl) h1
  refine (walk a0 a1 len1 cap1 z1 W (wf_u8 w0) w1 (upto_strs (d := d1) hk (by rw [hd0, hd1]; simp) s1)).mono fun e W' ⟨he, hb⟩ => ⟨_, he, ends_true hW' rfl (by kernel_rfl) ?_ (by kernel_rfl) hb⟩
  intro xs hxs
  match xs, hxs with
  | [_, _], _ => rfl

theorem proved : Rows.QuotaPartsUptoSaid :=
  OpenClaim.holds_of_cond 4 Try.f4 rfl rfl rfl rfl rfl rfl rfl ⟨rfl, rfl, rfl, rfl, rfl⟩ rfl rfl rfl rfl rfl (by kernel_rfl) Try.func4 (by kernel_rfl)
    (of_decide_eq_true (by kernel_rfl)) (by unfold Func.isWrapper; first | (rw [if_pos (by decide +kernel)]; kernel_rfl) | (rw [if_neg (by decide +kernel)]; exact ⟨rfl, rfl⟩))
    (fun os started H enc _ F => lifted os started H enc F)
end Go.Proofs.Ytcfedekcbbalcaa.lawQuotaParts
