/- 'QuotaDoes' answers true for every room and every operations: an Out answers, and holds, what the document's answer does. Conditions: none. -/
import Derived.Test.YtcfedekcbbalcaaQuotaDoesP
import Derived.StillTailTactics
namespace Go.Proofs.Ytcfedekcbbalcaa.lawQuotaDoes
open Go.ChangeShapes Go.WideShapes Go.ChangeAt Go.RowKit

set_option maxHeartbeats 1000000 in
theorem walk_low (n : Int) (a : Option Addr) (len cap : Nat) (w : World) (h : n < 0 ∨ 1073741824 < n) :
    Calls Try.prog 3 #[.int .i64 n, .slice a len cap] w fun e w' => e = .returned (.bool true) ∧ Below w.heap.size w w' := by
  have HN := hidden (fun W => new_low n W h)
  have HR := hidden (fun W => rnew_low n W h)
  unfold refR at HR
  clear h
  go_enter Try.func3, Try.ntmps3
  go_wp2_with fail
  refine (HN.out _).mono ?_
  rintro e w' ⟨rfl, rfl⟩
  go_wp2_with fail
  refine (HR.out _).mono ?_
  rintro e w1 ⟨rfl, hb1⟩
  have HB := hidden hb1
  have hz := hb1.size
  clear hb1
  go_wp2_with fail
  refine (knows_calls _).mono ?_
  rintro e w2 ⟨rfl, hb2⟩
  go_wp2
  go_ret
  exact ⟨rfl, below_then (HB.out.alloc hz _) (by simp; omega) hb2⟩

set_option maxHeartbeats 4000000 in
set_option maxRecDepth 100000 in
theorem walk_in (r : Nat) (a : Option Addr) (len cap : Nat) (L : List OpV) (w : World) (hr : r ≤ 1073741824) (hl : len ≤ cap) (hcap : cap ≤ maxLen) (hL : Ops w a len L) :
    Calls Try.prog 3 #[.int .i64 r, .slice a len cap] w fun e w' => e = .returned (.bool true) ∧ Below w.heap.size w w' := by
  have hmax : cap ≤ 9223372036854775807 := hcap
  have HN := hidden (new_calls r w hr)
  have HR := hidden (fun W => rnew_calls r W hr)
  unfold refR at HR
  have HL := hidden hL
  have HC := hidden hcap
  have hO0 := heap_alloc_new w (.cells #[.slice none 0 0, .int .i64 r] 56)
  have HO0 := hidden hO0
  clear hL hcap hO0
  go_enter Try.func3, Try.ntmps3
  go_wp2_with fail
  refine HN.out.mono ?_
  rintro e w' ⟨rfl, rfl⟩
  go_wp2_with fail
  refine (HR.out _).mono ?_
  rintro e w1 ⟨rfl, hb1⟩
  have hO1 := (hb1.block w.heap.size (by simp)).trans HO0.out
  have hz1 := hb1.size
  have hB1 : Below w.heap.size w w1 := below_then (by go_grown) (by simp) hb1
  have HB1 := hidden hB1
  simp at hz1
  have hO2 := OutAt.fresh (w := w1.alloc (.cells #[.int .i64 r, .string ⟨#[]⟩] 28)) (B := w1.heap.size + 1) ((heap_alloc_old _ _ (by omega)).trans hO1) (by simp) hr
  have hX2 : TwoAt 28 (w1.alloc (.cells #[.int .i64 r, .string ⟨#[]⟩] 28)) w1.heap.size (.int .i64 r) (.string ByteArray.empty) := TwoAt.new _ _ _ _
  have HF := hidden (few_calls (HL.out.below (hB1.alloc hB1.size (.cells #[.int .i64 r, .string ⟨#[]⟩] 28))) hl HC.out)
  have HO2 := hidden hO2
  have HX2 := hidden hX2
  have HB2 := hidden (hB1.alloc hB1.size (.cells #[.int .i64 r, .string ⟨#[]⟩] 28))
  clear hb1 hO1 hB1 hO2 hX2
  go_wp2_with fail
  refine HF.out.mono ?_
  rintro e w2 ⟨⟨f, rfl, hf⟩, rfl⟩
  cases f with
  | false =>
    clear hf
    go_wp2_with fail
    refine (knows_calls _).mono ?_
    rintro e w3 ⟨rfl, hb3⟩
    go_wp2
    go_ret
    exact ⟨rfl, below_then HB2.out (by simp; omega) hb3⟩
  | true =>
    obtain ⟨hlen, hfew⟩ := hf rfl
    have HFW := hidden hfew
    clear hf hfew
    go_wp2
    go_loopw [9] (fun i wr => ∃ (k : Nat) (s : ByteArray) (v : Value), k ≤ len ∧ i = .int .i64 k ∧ OutAt wr (w1.heap.size + 1) w.heap.size s r v ∧ TwoAt 28 wr w1.heap.size (.int .i64 r) (.string s) ∧ Below w.heap.size w wr) (fun i _ => len - (intOf i).toNat)
    case atStart => exact ⟨0, _, _, by omega, rfl, HO2.out, HX2.out, HB2.out⟩
    case round =>
      obtain ⟨k, s, v, hk, rfl, ho, hx, hb⟩ := hrel
      have HO := hidden ho
      have HX := hidden hx
      have HB := hidden hb
      have hlo := ho.lt
      have hlx := hx.lt
      have hlB := ho.low
      by_cases hlt : k < len
      · have hlk : decide ((k : Int) < len) = true := by simp; omega
        obtain ⟨b, off, rfl, hbl, hc⟩ := HL.out.2 (by omega)
        obtain ⟨x, hxk⟩ : ∃ x, L[k]? = some x := ⟨_, List.getElem?_eq_getElem (by rw [HL.out.1]; exact hlt)⟩
        have hfo := HFW.out k x hlt hxk
        obtain ⟨⟨c0, c1, c2, c3⟩, g1, g2, g3, g4, g5, g6⟩ := hc k x hxk
        have e : ∀ j, wr.cell? ⟨b, j, none⟩ = w.cell? ⟨b, j, none⟩ := fun j => hb.cell (p := ⟨b, j, none⟩) hbl
        rw [← e] at c0 c1 c2 c3
        obtain ⟨kind, la, ll, lc, ss, n, c⟩ := x
        simp only at c0 c1 c2 c3 g1 g2 g3 g4 g5 g6
        obtain ⟨f1, f2, f3⟩ := hfo
        simp only at f1 f2 f3
        have G3 := hidden g3
        have G2 := hidden g2
        have hss : ss.length = ll := g3.1
        have ht := total_few ss (by rw [hss]; exact f3)
        clear hc hxk e f2 f3 g2 g3 ho hx hb
        by_cases q0 : kind = 0
        · subst q0
          obtain ⟨e1, s1, hP⟩ := both_put (s := s) HO.out (G3.out.below (C' := Kin (w1.heap.size + 1) w.heap.size wr) fun y hy => ⟨⟨by omega, by omega, .inl (by omega)⟩, HB.out.block y hy⟩) g1 G2.out (by omega)
          have HP := hidden hP
          clear hP ht
          go_wp2_with fail
          refine HP.out.2.2.1.mono ?_
          rintro e w4 ⟨rfl, ⟨v4, ho4⟩, hs4⟩
          have hb4 := hs4.behind (n := w.heap.size) (a := w) HB.out (by omega) (by omega) (by omega)
          have hx4 : TwoAt 28 w4 w1.heap.size (.int .i64 r) (.string s) := (hs4.block _ ⟨hlx, by omega, .inl (by omega)⟩).trans HX.out
          have HR4 := hidden (fun W (h : Below w4.heap.size w4 W) => HP.out.2.2.2 W (hs4.trans (Save.of_below h)))
          unfold refR at HR4
          have d1 := (hb4.cell (p := ⟨b, off + k * 4 + 1, none⟩) hbl).trans (((HB.out.cell (p := ⟨b, off + k * 4 + 1, none⟩) hbl).symm).trans c1)
          have x0 := hx4.cell0
          have x1 := hx4.cell1
          have HO4 := hidden ho4
          have HX4 := hidden hx4
          have HB4 := hidden hb4
          clear ho4 hx4 hb4 hs4 c0 c1 c2 c3
          go_wp2
          go_region_with (first | (go_at_call 11; refine (HR4.out _ (Below.refl _ _).drew).mono ?_; rintro e w5 ⟨rfl, hb5⟩; have hx5 := HX4.out.drew.below hb5; have y0 := hx5.frozen0; have y1 := hx5.frozen1; have y2 := hx5.cell0; have y3 := hx5.cell1))
          all_goals
            have hx6 := hx5.stored (.int .i64 r) (.string s1)
            have ho6 := (HO4.out.drew.below hb5).beside hx5 (.int .i64 r) (.string s1)
            have hb6 := (below_then HB4.out.drew HB4.out.size hb5)
            have hb7 := (hb6.setCell (p := ⟨w1.heap.size, 0, none⟩) (by show w.heap.size ≤ w1.heap.size; omega) (.int .i64 r)).setCell (p := ⟨w1.heap.size, 1, none⟩) (by show w.heap.size ≤ w1.heap.size; omega) (.string s1)
            clear y0 y1 y2 y3 hx5 hb5 hb6 d1 x0 x1
            generalize (w5.setCell ⟨w1.heap.size, 0, none⟩ (.int .i64 r)).setCell ⟨w1.heap.size, 1, none⟩ (.string s1) = W6 at *
            have x0 := hx6.cell0
            have x1 := hx6.cell1
            have HX6 := hidden hx6
            have HO6 := hidden ho6
            have HB6 := hidden hb7
            have hz6 := ho6.low
            clear hx6 ho6 hb7
            go_wp2_with fail
            refine (same_calls HO6.out).mono ?_
            rintro e w7 ⟨rfl, hb7⟩
            have HO7 := hidden (HO6.out.below hb7)
            have HX7 := hidden (HX6.out.below hb7)
            have HB7 := hidden (below_then HB6.out (by have := HO6.out.lt; omega) hb7)
            clear hb7
            go_wp2
            go_roundw
            case rel => exact ⟨k + 1, s1, v4, by omega, by go_num, HO7.out, HX7.out, HB7.out⟩
            case measure => simp [intOf]; omega
        · have dk0 : (kind == 0) = false := by simp [q0]
          by_cases q1 : kind = 1
          · subst q1
            obtain ⟨e1, s1, hP⟩ := both_pad HO.out.drew n c g6
            have HP := hidden hP
            clear hP ht
            go_wp2
            go_still_tail 11, (by kernel_rfl)
            change wpList _ _ _ _ _ wr.drew
            go_wp2_with fail
            refine HP.out.2.1.mono ?_
            rintro e w4 ⟨rfl, ⟨v4, ho4⟩, hs4⟩
            have hb4 := hs4.behind (n := w.heap.size) (a := w) HB.out.drew (by omega) (by omega) (by show w.heap.size ≤ wr.heap.size; omega)
            have hx4 : TwoAt 28 w4 w1.heap.size (.int .i64 r) (.string s) := (hs4.block _ ⟨hlx, by omega, .inl (by omega)⟩).trans HX.out
            have HR4 := hidden HP.out.2.2
            unfold refR at HR4
            have d := fun j => (hb4.cell (p := ⟨b, j, none⟩) hbl).trans (HB.out.cell (p := ⟨b, j, none⟩) hbl).symm
            have d2 := (d _).trans c2
            have d3 := (d _).trans c3
            have x0 := hx4.cell0
            have x1 := hx4.cell1
            have HO4 := hidden ho4
            have HX4 := hidden hx4
            have HB4 := hidden hb4
            clear ho4 hx4 hb4 hs4 d c0 c1 c2 c3
            go_wp2
            go_region_with (first | (go_at_call 13; refine (HR4.out _).mono ?_; rintro e w5 ⟨rfl, hb5⟩; have hx5 := HX4.out.drew.below hb5; have y0 := hx5.frozen0; have y1 := hx5.frozen1; have y2 := hx5.cell0; have y3 := hx5.cell1))
            all_goals
              have hx6 := hx5.stored (.int .i64 r) (.string s1)
              have ho6 := (HO4.out.drew.below hb5).beside hx5 (.int .i64 r) (.string s1)
              have hb6 := (below_then HB4.out.drew HB4.out.size hb5)
              have hb7 := (hb6.setCell (p := ⟨w1.heap.size, 0, none⟩) (by show w.heap.size ≤ w1.heap.size; omega) (.int .i64 r)).setCell (p := ⟨w1.heap.size, 1, none⟩) (by show w.heap.size ≤ w1.heap.size; omega) (.string s1)
              clear y0 y1 y2 y3 hx5 hb5 hb6 d2 d3 x0 x1
              generalize (w5.setCell ⟨w1.heap.size, 0, none⟩ (.int .i64 r)).setCell ⟨w1.heap.size, 1, none⟩ (.string s1) = W6 at *
              have x0 := hx6.cell0
              have x1 := hx6.cell1
              have HX6 := hidden hx6
              have HO6 := hidden ho6
              have HB6 := hidden hb7
              have hz6 := ho6.low
              clear hx6 ho6 hb7
              go_wp2_with fail
              refine (same_calls HO6.out).mono ?_
              rintro e w7 ⟨rfl, hb7⟩
              have HO7 := hidden (HO6.out.below hb7)
              have HX7 := hidden (HX6.out.below hb7)
              have HB7 := hidden (below_then HB6.out (by have := HO6.out.lt; omega) hb7)
              clear hb7
              go_wp2
              go_roundw
              case rel => exact ⟨k + 1, s1, v4, by omega, by go_num, HO7.out, HX7.out, HB7.out⟩
              case measure => simp [intOf]; omega
          · have dk1 : (kind == 1) = false := by simp [q1]
            obtain ⟨e1, s1, hP⟩ := both_cut HO.out n
            have HP := hidden hP
            clear hP ht
            go_wp2_with fail
            refine HP.out.2.1.mono ?_
            rintro e w4 ⟨rfl, ⟨v4, ho4⟩, hs4⟩
            have hb4 := hs4.behind (n := w.heap.size) (a := w) HB.out (by omega) (by omega) (by show w.heap.size ≤ wr.heap.size; omega)
            have hx4 : TwoAt 28 w4 w1.heap.size (.int .i64 r) (.string s) := (hs4.block _ ⟨hlx, by omega, .inl (by omega)⟩).trans HX.out
            have HR4 := hidden HP.out.2.2
            unfold refR at HR4
            have d := fun j => (hb4.cell (p := ⟨b, j, none⟩) hbl).trans (HB.out.cell (p := ⟨b, j, none⟩) hbl).symm
            have d2 := (d _).trans c2
            have x0 := hx4.cell0
            have x1 := hx4.cell1
            have HO4 := hidden ho4
            have HX4 := hidden hx4
            have HB4 := hidden hb4
            clear ho4 hx4 hb4 hs4 d c0 c1 c2 c3
            go_wp2
            go_region_with (first | (go_at_call 15; refine (HR4.out _).mono ?_; rintro e w5 ⟨rfl, hb5⟩; have hx5 := HX4.out.drew.below hb5; have y0 := hx5.frozen0; have y1 := hx5.frozen1; have y2 := hx5.cell0; have y3 := hx5.cell1))
            all_goals
              have hx6 := hx5.stored (.int .i64 r) (.string s1)
              have ho6 := (HO4.out.drew.below hb5).beside hx5 (.int .i64 r) (.string s1)
              have hb6 := (below_then HB4.out.drew HB4.out.size hb5)
              have hb7 := (hb6.setCell (p := ⟨w1.heap.size, 0, none⟩) (by show w.heap.size ≤ w1.heap.size; omega) (.int .i64 r)).setCell (p := ⟨w1.heap.size, 1, none⟩) (by show w.heap.size ≤ w1.heap.size; omega) (.string s1)
              clear y0 y1 y2 y3 hx5 hb5 hb6 d2 x0 x1
              generalize (w5.setCell ⟨w1.heap.size, 0, none⟩ (.int .i64 r)).setCell ⟨w1.heap.size, 1, none⟩ (.string s1) = W6 at *
              have x0 := hx6.cell0
              have x1 := hx6.cell1
              have HX6 := hidden hx6
              have HO6 := hidden ho6
              have HB6 := hidden hb7
              have hz6 := ho6.low
              clear hx6 ho6 hb7
              go_wp2_with fail
              refine (same_calls HO6.out).mono ?_
              rintro e w7 ⟨rfl, hb7⟩
              have HO7 := hidden (HO6.out.below hb7)
              have HX7 := hidden (HX6.out.below hb7)
              have HB7 := hidden (below_then HB6.out (by have := HO6.out.lt; omega) hb7)
              clear hb7
              go_wp2
              go_roundw
              case rel => exact ⟨k + 1, s1, v4, by omega, by go_num, HO7.out, HX7.out, HB7.out⟩
              case measure => simp [intOf]; omega
      · have hlk : decide ((k : Int) < len) = false := by simp; omega
        clear ho hx hb
        go_wp2_with fail
        refine (knows_calls _).mono ?_
        rintro e w3 ⟨rfl, hb3⟩
        go_wp2
        go_ret
        exact ⟨rfl, below_then HB.out (by omega) hb3⟩

theorem walk (n : Int) (a : Option Addr) (len cap : Nat) (L : List OpV) (w : World) (_ : -9223372036854775808 ≤ n ∧ n ≤ 9223372036854775807) (hz : len ≤ cap ∧ cap ≤ maxLen ∧ Ops w a len L) :
    Calls Try.prog 3 #[.int .i64 n, .slice a len cap] w fun e w' => e = .returned (.bool true) ∧ Below w.heap.size w w' := by
  by_cases h : n < 0 ∨ 1073741824 < n
  · exact walk_low n a len cap w h
  · obtain ⟨r, rfl⟩ := Int.eq_ofNat_of_zero_le (show 0 ≤ n by omega)
    exact walk_in r a len cap L w (by omega) hz.1 hz.2.1 hz.2.2

set_option maxRecDepth 100000 in
theorem lifted (os : Os) (started : os.Started) (H : Type) (enc : TypeId × Value → H) :
    ReturnsInHanded {} Try.checked os 3 .any (Rows.quotaDoesSpec.pre6 enc Try.prog Try.f3 Rows.quotaDoesRow.domain false) (Rows.quotaDoesSpec.post enc Try.prog Try.f3 false true false false) := by
  refine returnsInHanded_of_change (C := Try.checked) own started (by kernel_rfl) Try.func3
    (ChangeSpec.witness6 (enc := enc) (C := Try.checked) false ⟨#[], #[.int .i64 0, .slice none 0 0], []⟩ 8 (by kernel_rfl) (by kernel_rfl) (by kernel_rfl) (by kernel_rfl)) ?_
  intro W base args ds gs before hval0 hW hcnd _
  have hval : ∀ (j : Nat) t v, Try.f3.params[j]? = some t → args[j]? = some v → Value.okWide Try.prog W .any base t v := hval0
  have hW' : DataW.Whole enc Try.prog Try.f3.params.toList Rows.quotaDoesSpec.vars false W args.toList ds gs before := hW
  obtain ⟨p, q, hA0, hV, rfl, hfz, hnd⟩ := hW
  have hA : DataW.TrodAll enc Try.prog W 0 (fun _ => true) true Try.f3.params.toList args.toList ds p := hA0
  have hlt : ∀ x ∈ p, x.block < W.heap.size := fun x hx => hW'.lt x (List.mem_append_left _ hx)
  rw [Try.params3] at hA hval
  obtain ⟨v0, vs0, d0, ds0, p0, q0, hargs, hd0, hp0, h0, r0⟩ := trodAll_cons hA
  obtain ⟨v1, vs1, d1, ds1, p1, q1, rfl, hd1, hp1, h1, r1⟩ := trodAll_cons r0
  obtain ⟨rfl, _, _⟩ := trodAll_nil r1
  obtain rfl : args = #[v0, v1] := by cases args; simp_all
  obtain ⟨a0, rfl, _, _, w0⟩ := open_int Try.underlying3 (hval 0 3 v0 rfl rfl) h0
  obtain ⟨a1, len1, cap1, rfl⟩ := okWide_slice Try.underlying22 (hval 1 22 v1 rfl rfl)
  obtain ⟨z1, w1⟩ := open_ops h1
  refine (walk a0 a1 len1 cap1 z1 W (wf_i64 w0) w1).mono fun e W' ⟨he, hb⟩ => ⟨_, he, ends_true hW' rfl (by kernel_rfl) ?_ (by kernel_rfl) hb⟩
  intro xs hxs
  match xs, hxs with
  | [_, _], _ => rfl

theorem proved : Rows.QuotaDoesSaid :=
  OpenClaim.holds_of_wide 3 Try.f3 rfl rfl rfl rfl rfl rfl rfl ⟨rfl, rfl, rfl, rfl, rfl⟩ rfl rfl rfl rfl rfl (by kernel_rfl) Try.func3 (by kernel_rfl)
    (of_decide_eq_true (by kernel_rfl)) (by unfold Func.isWrapper; first | (rw [if_pos (by decide +kernel)]; kernel_rfl) | (rw [if_neg (by decide +kernel)]; exact ⟨rfl, rfl⟩))
    (fun os started H enc _ => lifted os started H enc)
end Go.Proofs.Ytcfedekcbbalcaa.lawQuotaDoes
