/- KindFine (P1303), for every input: of at most 20 sets, each class is not empty and has each set's bytes all or none; the least bytes of the classes rise, and each two that stand side by side are told apart by a set. -/
import Derived.Test.YtanjpajnciifiaaKiOpen
import Derived.Test.YtanjpajnciifiaaKiFin
namespace Go.Proofs.Ytanjpajnciifiaa.lawKindFine
open Go.ChangeShapes Go.WideShapes Go.ChangeAt Go.RowKit

theorem row_is {w : World} {base n : Nat} {v : Value} {L : List Nat} (h : w.ownsRow base 5 1 v n (L.map byteV)) (hn : 0 < n) :
    ∃ B cap, v = .slice (some ⟨B, 0, none⟩) n cap ∧ base ≤ B ∧ B < w.heap.size ∧ n ≤ cap ∧ cap ≤ maxLen ∧ ∀ j (hj : j < L.length), w.cell? ⟨B, j, none⟩ = some (.int .u8 (L[j] : Int)) := by
  rcases h.2 with ⟨rfl, h0⟩ | ⟨B, cap, cur, rfl, hb, hg, hnc, hcm, _⟩
  · omega
  · refine ⟨B, cap, rfl, hb, (Array.getElem?_eq_some_iff.1 hg).1, hnc, hcm, fun j hj => ?_⟩
    have := World.ownsRow.cells (g := B) h rfl j (byteV L[j]) (by simp [hj])
    rw [Addr.add_lit, Nat.zero_add] at this
    exact this
/-- the least bytes of the first c classes -/
def LF (K : Nat → List Bool) (c : Nat) : List Nat := (List.range c).map (lf K)
theorem LF_more (K : Nat → List Bool) (c : Nat) : (LF K c).map byteV ++ [.int .u8 (lf K c : Int)] = (LF K (c + 1)).map byteV := by
  unfold LF
  rw [List.range_succ, List.map_append, List.map_append]
  rfl
theorem LF_get (K : Nat → List Bool) {c j : Nat} (h : j < c) : ∃ hj : j < (LF K c).length, (LF K c)[j] = lf K j := by
  unfold LF
  exact ⟨by simpa using h, by simp⟩
theorem LF_len (K : Nat → List Bool) (c : Nat) : (LF K c).length = c := by simp [LF]

set_option maxHeartbeats 4000000 in
set_option maxRecDepth 100000 in
theorem walk (a : Option Addr) (len cap : Nat) (fs : List (Nat → Bool)) (w : World) (hh : cap ≤ maxLen ∧ len ≤ cap ∧ Sets w a len fs) :
    Calls Try.prog 5 #[.slice a len cap] w fun e w' => e = .returned (.bool true) ∧ Below w.heap.size w w' := by
  obtain ⟨hcap, hlen, hS⟩ := hh
  unfold maxLen at hcap
  have HS := hidden hS
  have HN := hidden hS.1
  clear hS
  have hal := run_zero_arr
  by_cases h20 : 20 < len
  · go_enter Try.func5, Try.ntmps5
    go_wp2_with fail
    refine (knows_calls _).mono ?_
    rintro e w1 ⟨rfl, hb1⟩
    go_wp2
    go_ret
    exact ⟨rfl, hb1⟩
  · obtain ⟨i0, hi, hz0, hz1, hz2⟩ := info_parts infoByte
    have HI := hidden hi
    have HZ := hidden (And.intro hz0 (And.intro hz1 hz2))
    clear hi hz0 hz1 hz2
    have HLT := hidden (show ∀ j, j < 256 → clsK (keyL fs) j < 256 from fun j hj => Nat.lt_of_lt_of_le (cls_lt _ hj) (cnt_le _ 256))
    obtain ⟨n, hn⟩ : ∃ n, n = cntK (keyL fs) 256 := ⟨_, rfl⟩
    have HNN := hidden hn
    have hn1 : 1 ≤ n := by rw [hn]; exact cnt_one _ (by omega)
    have hn2 : n ≤ 256 := by rw [hn]; exact cnt_le _ _
    have HOF := hidden (fun w' (h : Sets w' a len fs) => hn ▸ of_calls a len cap fs w' (by omega) h)
    clear hn
    have q1 : decide ((n : Int) < 1) = false := decide_eq_false (by omega)
    have q2 : decide (256 < (n : Int)) = false := decide_eq_false (by omega)
    have q3 : decide (n < 1) = false := decide_eq_false (by omega)
    have q4 : decide (256 < n) = false := decide_eq_false (by omega)
    go_enter Try.func5, Try.ntmps5
    go_wp2_with fail
    refine (HOF.out _ HS.out).mono ?_
    rintro e w1 ⟨rfl, hb1⟩
    have HB1 := hidden hb1
    have HN1 := hidden (ArrAt.new w1 24 (nV fun _ => 0))
    clear hb1
    go_wp2_with (first
      | (refine store_arr rfl (x := .tmp 3) (y := .tmp 20) rfl (B := w1.heap.size) (clsK (keyL fs)) rfl rfl HN1.out ?_; intro w2 hw2 hs2; have HX2 := hidden (show ArrAt w2 w1.heap.size 24 (nV (clsK (keyL fs))) ∧ Below w.heap.size w w2 ∧ w2.heap.size = w1.heap.size + 1 from (by have e := hw2.out; subst e; exact ⟨HN1.out.storedRow _, below_setRow (HB1.out.alloc HB1.out.size _) HB1.out.size _, by rw [setRow_size]; simp⟩)); clear hw2 hs2))
    go_loopw [5, 6] (fun v i wr => ∃ c : Nat, c ≤ n ∧ i = .int .i64 c ∧ wr.ownsRow (w1.heap.size + 1) 5 1 v c ((LF (keyL fs) c).map byteV) ∧ ArrAt wr w1.heap.size 24 (nV (clsK (keyL fs))) ∧ Below w.heap.size w wr ∧ w1.heap.size + 1 ≤ wr.heap.size) (fun _ i _ => n - (intOf i).toNat)
    case atStart =>
      refine ⟨0, by omega, rfl, ?_, HX2.out.1.alloc _, HX2.out.2.1.alloc HX2.out.2.1.size _, by have := HX2.out.2.2; simp; omega⟩
      exact World.ownsRow_made w2 #[] 0 (by have := HX2.out.2.2; omega) (by decide) rfl
    case round =>
      obtain ⟨c, hc, rfl, hR, hA, h5, h6⟩ := hrel
      have HR := hidden hR
      have HA := hidden hA
      have H5 := hidden h5
      clear hR hA h5
      by_cases hlt : c < n
      · have hcd : decide ((c : Int) < n) = true := decide_eq_true (by omega)
        have hlf := (lf_is (keyL fs) (HNN.out ▸ hlt)).1
        go_wp2_with (refine load_arr rfl (x := .tmp 3) rfl (B := w1.heap.size) rfl HA.out ?_)
        refine (bytes_calls (clsK (keyL fs)) (c : Int) _ HLT.out).mono ?_
        rintro e w5 ⟨vb, rfl, hrow, hb5⟩
        obtain ⟨rst, hrst⟩ := lst_cons (keyL fs) (HNN.out ▸ hlt)
        have HLK := hidden (fun y (hy : y ∈ lstC (clsK (keyL fs)) (c : Int)) => lst_key (keyL fs) (HNN.out ▸ hlt) hy)
        have HLL := hidden (fun y (hy : y ∈ lstC (clsK (keyL fs)) (c : Int)) => (lst_mem.1 hy).1)
        obtain ⟨L, hL⟩ : ∃ L, L = lstC (clsK (keyL fs)) (c : Int) := ⟨_, rfl⟩
        rw [← hL] at hrow HLK HLL hrst
        obtain ⟨x, hx⟩ : ∃ x, x = lf (keyL fs) c := ⟨_, rfl⟩
        rw [← hx] at HLK hrst hlf
        have hLpos : 0 < L.length := by rw [hrst]; simp
        have hL256 : L.length ≤ 256 := by rw [hL]; exact filter_le _ 256
        have hLx : ∃ h0 : 0 < L.length, L[0] = x := ⟨hLpos, by simp [hrst]⟩
        obtain ⟨bB, bcap, rfl, hbB, hbl, hbn, hbm, hbc⟩ := row_is hrow hLpos
        have HBC := hidden (fun j (hj : j < L.length) => hbc j hj)
        have hb0 : w5.cell? ⟨bB, 0, none⟩ = some (.int .u8 (x : Int)) := by
          have := hbc 0 hLpos
          rw [hLx.2] at this
          exact this
        obtain ⟨m, hm⟩ : ∃ m, m = L.length := ⟨_, rfl⟩
        have HM := hidden hm
        rw [← hm] at hLpos hL256 hbn hrow ⊢
        have HR5 := hidden (row_below HR.out hb5)
        have HA5 := hidden (HA.out.below hb5)
        have HB5 := hidden (below_then H5.out H5.out.size hb5)
        have hz5 := hb5.size
        have HOWN := hidden (fun k (e : u5.ownBlock = some k) => (World.ownsRow.lt HR.out k e).2)
        have HHX := hidden hx
        have HLX := hidden hLx
        have hmz : decide ((m : Int) = 0) = false := decide_eq_false (by omega)
        have hmz2 : ((m : Int) == 0) = false := by simp; omega
        have hmp : (0 : Int) < m := by omega
        clear hrst hbc hrow hL hb5 hx hLx hm
        go_wp2_with (at_builtin; refine wpList_append_own _ rfl _ _ 33 rfl (w1.heap.size + 1) 5 i0 (.int .u8 0) 1 1 Try.underlying33 HI.out HZ.out.1 HZ.out.2.1 HZ.out.2.2 rfl (by decide) _ _ _ rfl (HR5.out.alloc _) ⟨w5.heap.size, 0, none⟩ 1 1 [.int .u8 x] rfl rfl (fun j u hj => news_one hj) (fun u hu => by simp at hu; subst hu; rfl) (by unfold maxLen; omega) (by omega) (by simp; omega) ?_; intro v6 w6 hown6 hgrow6 _)
        have HO := hidden (HR5.out.alloc (.cells #[.int .u8 x] 5))
        have HR6 := hidden (show w6.ownsRow (w1.heap.size + 1) 5 1 v6 (c + 1) ((LF (keyL fs) (c + 1)).map byteV) from by rw [← LF_more, ← HHX.out]; exact hown6)
        have HA6 := hidden ((HA5.out.alloc (.cells #[.int .u8 x] 5)).grown HO.out hgrow6 (Nat.lt_succ_self _))
        have HB6 := hidden (below_grown (HB5.out.alloc HB5.out.size (.cells #[.int .u8 x] 5)) HO.out hgrow6 (Nat.le_trans HB1.out.size (Nat.le_succ _)) (by have := HB5.out.size; simp; omega))
        have hbk : w6.heap[bB]? = w5.heap[bB]? := (hgrow6.block bB (by simp; omega) (fun e => by have := HOWN.out _ e.symm; omega)).trans (heap_alloc_old _ _ hbl)
        have HC6 := hidden (fun j (hj : j < L.length) => (show w6.cell? ⟨bB, j, none⟩ = w5.cell? ⟨bB, j, none⟩ by simp [World.cell?, hbk]).trans (HBC.out j hj))
        have hz6 := hgrow6.size
        simp at hz6
        have hbl6 : bB < w6.heap.size := by omega
        clear hown6 hgrow6 HR5 HA5 HB5 HBC HO HOWN hbk hb0 HR HA H5
        go_loopw [8] (fun i wr => ∃ k : Nat, k ≤ len ∧ i = .int .i64 k ∧ Below w6.heap.size w6 wr) (fun i _ => len - (intOf i).toNat)
        case atStart => exact ⟨0, by omega, rfl, Below.refl _ _⟩
        case round =>
          obtain ⟨i, hi, rfl, hbi⟩ := hrel
          have HBI := hidden hbi
          clear hbi
          by_cases hil : i < len
          · have hid : decide ((i : Int) < len) = true := decide_eq_true (by omega)
            obtain ⟨f, hf⟩ : ∃ f, f = fs.getD i fNone := ⟨_, rfl⟩
            have HSM := hidden (show ∀ y ∈ L, f y = f x from fun y hy => by
              have h1 := HLK.out y hy
              rw [keyL_eq] at h1
              rw [hf]
              exact h1 i (by rw [HN.out]; exact hil))
            have HF := hidden hf
            clear hf
            obtain ⟨wi, rfl⟩ : ∃ wi, wi = wr := ⟨wr, rfl⟩
            go_wp2
            go_loopw [9] (fun i wr => ∃ k : Nat, k ≤ m ∧ i = .int .i64 k ∧ Below w6.heap.size w6 wr) (fun i _ => m - (intOf i).toNat)
            case atStart => exact ⟨0, by omega, rfl, HBI.out⟩
            case round =>
              obtain ⟨k, hk, rfl, hbk⟩ := hrel
              have HBK := hidden hbk
              clear hbk
              by_cases hkl : k < m
              · obtain ⟨y, hy⟩ : ∃ y, y = L[k]'(by rw [← HM.out]; exact hkl) := ⟨_, rfl⟩
                have hym : y ∈ L := by rw [hy]; exact List.getElem_mem _
                have hy256 := HLL.out y hym
                have hbk := HC6.out k (by rw [← HM.out]; exact hkl)
                have hb0 : w6.cell? ⟨bB, 0, none⟩ = some (.int .u8 (x : Int)) := by
                  obtain ⟨h0, e0⟩ := HLX.out
                  rw [HC6.out 0 h0, e0]
                rw [← hy] at hbk
                obtain ⟨b, off, rfl, hbl', e0, e1, e2, e3⟩ := (HS.out.below (below_then HB6.out HB6.out.size HBK.out)).at' hil
                rw [← HF.out] at e0 e1 e2 e3
                have d0 := fun (p : Later wr) => Later.cell e0 hbl' p
                have d1 := fun (p : Later wr) => Later.cell e1 hbl' p
                have d2 := fun (p : Later wr) => Later.cell e2 hbl' p
                have d3 := fun (p : Later wr) => Later.cell e3 hbl' p
                have dk := fun (p : Later wr) => Later.cell ((HBK.out.cell (p := ⟨bB, k, none⟩) hbl6).trans hbk) (Nat.lt_of_lt_of_le hbl6 HBK.out.size) p
                have dz := fun (p : Later wr) => Later.cell ((HBK.out.cell (p := ⟨bB, 0, none⟩) hbl6).trans hb0) (Nat.lt_of_lt_of_le hbl6 HBK.out.size) p
                obtain ⟨bx, hbx⟩ : ∃ bx, bx = f x := ⟨_, rfl⟩
                have HCX := hidden (fun w' => hbx ▸ rhas_nat f x w' hlf)
                have HCY := hidden (fun w' => (HSM.out y hym).trans hbx.symm ▸ rhas_nat f y w' hy256)
                have hwz := HBK.out.size
                have hkm : (k : Int) < m := by omega
                have hil2 : (i : Int) < len := by omega
                clear hy hym hbk hb0 e0 e1 e2 e3 hbx
                go_wp2
                refine wp_region_later (by kernel_rfl) (by kernel_rfl) ?_
                repeat (go_big_quiet_step ((go_at_call 18; first | (with_reducible exact Later.calls (HCY.out _)) | (with_reducible exact Later.calls (HCX.out _)))))
                refine wpQuiet_nil ?_
                rintro _ ⟨⟨_, hb5⟩, rfl⟩
                rename_i w7
                have HB7 := hidden (below_then HBK.out HBK.out.size hb5)
                clear hb5 d0 d1 d2 d3 dk dz HCX HCY HBK
                go_wp2
                go_roundw
                case rel => exact ⟨k + 1, by omega, by go_num, HB7.out⟩
                case measure => simp [intOf]; omega
              · obtain rfl : k = m := by omega
                go_wp2
                go_roundw
                case rel => exact ⟨i + 1, by omega, by go_num, HBK.out⟩
                case measure => simp [intOf]; omega
          · obtain rfl : i = len := by omega
            have HRL := hidden (below_then HB6.out HB6.out.size HBI.out)
            have hzl := HBI.out.size
            go_wp2
            refine ⟨⟨c + 1, by omega, by go_num, row_below HR6.out HBI.out, HA6.out.below HBI.out, HRL.out, by omega⟩, by simp [intOf]; omega⟩
      · obtain rfl : c = n := by omega
        obtain ⟨lB, lcap, rfl, hlB, hlb, hln, hlm, hlc⟩ := row_is HR.out (by omega)
        have HLC := hidden (fun j (hj : j < c) => (show wr.cell? ⟨lB, j, none⟩ = some (.int .u8 (lf (keyL fs) j : Int)) from by obtain ⟨h1, h2⟩ := LF_get (keyL fs) hj; rw [hlc j h1, h2]))
        clear hlc
        obtain ⟨wo, rfl⟩ : ∃ wo, wo = wr := ⟨wr, rfl⟩
        go_wp2
        go_loopw [10] (fun i wr => ∃ k : Nat, 1 ≤ k ∧ k ≤ c ∧ i = .int .i64 k ∧ Below wo.heap.size wo wr) (fun i _ => c - (intOf i).toNat)
        case atStart => exact ⟨1, by omega, by omega, rfl, Below.refl _ _⟩
        case round =>
          obtain ⟨k, hk1, hkc, rfl, hbk⟩ := hrel
          have HBK := hidden hbk
          clear hbk
          by_cases hkl : k < c
          · have hkd : decide ((k : Int) < c) = true := decide_eq_true (by omega)
            obtain ⟨d, rfl⟩ : ∃ d, k = d + 1 := ⟨k - 1, by omega⟩
            obtain ⟨x, hx⟩ : ∃ x, x = lf (keyL fs) (d + 1) := ⟨_, rfl⟩
            obtain ⟨y, hy⟩ : ∃ y, y = lf (keyL fs) d := ⟨_, rfl⟩
            have hx256 : x < 256 := by rw [hx]; exact (lf_is (keyL fs) (HNN.out ▸ hkl)).1
            have hy256 : y < 256 := by rw [hy]; exact (lf_is (keyL fs) (HNN.out ▸ (by omega))).1
            have hyx : y < x := by rw [hx, hy]; exact lf_lt (keyL fs) (HNN.out ▸ hkl)
            have HAP := hidden (show apB fs x y len = true from by rw [hx, hy, ← HN.out]; exact apB_all (lf_key (keyL fs) (HNN.out ▸ hkl)))
            have HCX := hidden (hx ▸ HLC.out (d + 1) hkl)
            have HCY := hidden (hy ▸ HLC.out d (by omega))
            clear hx hy
            obtain ⟨wk, rfl⟩ : ∃ wk, wk = wr := ⟨wr, rfl⟩
            go_wp2
            go_loopw [11, 12] (fun v i wr => ∃ j : Nat, j ≤ len ∧ v = .bool (apB fs x y j) ∧ i = .int .i64 j ∧ Below wo.heap.size wo wr) (fun _ i _ => len - (intOf i).toNat)
            case atStart => exact ⟨0, by omega, rfl, rfl, HBK.out⟩
            case round =>
              obtain ⟨j, hj, rfl, rfl, hbj⟩ := hrel
              have HBJ := hidden hbj
              clear hbj
              by_cases hjl : j < len
              · obtain ⟨b, off, rfl, hbl', e0, e1, e2, e3⟩ := (HS.out.below (below_then H5.out H5.out.size HBJ.out)).at' hjl
                obtain ⟨f, hf⟩ : ∃ f, f = fs.getD j fNone := ⟨_, rfl⟩
                rw [← hf] at e0 e1 e2 e3
                have HMR := hidden (show apB fs x y (j + 1) = (apB fs x y j || (f x != f y)) from by rw [apB_more, hf])
                have d0 := fun (p : Later wr) => Later.cell e0 hbl' p
                have d1 := fun (p : Later wr) => Later.cell e1 hbl' p
                have d2 := fun (p : Later wr) => Later.cell e2 hbl' p
                have d3 := fun (p : Later wr) => Later.cell e3 hbl' p
                have dx := fun (p : Later wr) => Later.cell ((HBJ.out.cell (p := ⟨lB, d + 1, none⟩) hlb).trans HCX.out) (Nat.lt_of_lt_of_le hlb HBJ.out.size) p
                have dy := fun (p : Later wr) => Later.cell ((HBJ.out.cell (p := ⟨lB, d, none⟩) hlb).trans HCY.out) (Nat.lt_of_lt_of_le hlb HBJ.out.size) p
                have hwz := HBJ.out.size
                have hjl2 : (j : Int) < len := by omega
                have hdc : (d : Int) + 1 < c := by omega
                have hdc2 : (d : Int) < c := by omega
                have hwd : IntKind.i64.wrap ((d : Int) + 1 - 1) = d := by rw [IntKind.wrap_i64]; omega
                have hwd2 : (d : Int) + 1 - 1 = d := by omega
                have HC1 := hidden (fun w' => rhas_nat f x w' hx256)
                have HC2 := hidden (fun w' => rhas_nat f y w' hy256)
                clear hf e0 e1 e2 e3
                cases hap : apB fs x y j
                · obtain ⟨b1, hb1⟩ : ∃ b1, b1 = f x := ⟨_, rfl⟩
                  obtain ⟨b2, hb2⟩ : ∃ b2, b2 = f y := ⟨_, rfl⟩
                  rw [hap, Bool.false_or, ← hb1, ← hb2] at HMR
                  have HC3 := hidden (fun w' => hb1 ▸ HC1.out w')
                  have HC4 := hidden (fun w' => hb2 ▸ HC2.out w')
                  clear hap HC1 HC2 hb1 hb2
                  go_wp2
                  refine wp_region_later (by kernel_rfl) (by kernel_rfl) ?_
                  repeat (go_big_quiet_step ((go_at_call 18; first | (with_reducible exact Later.calls (HC3.out _)) | (with_reducible exact Later.calls (HC4.out _)))))
                  refine wpQuiet_nil ?_
                  rintro _ ⟨⟨_, hb5⟩, rfl⟩
                  rename_i w7
                  have HB7 := hidden (below_then HBJ.out HBJ.out.size hb5)
                  clear hb5 d0 d1 d2 d3 dx dy HBJ
                  go_wp2
                  go_roundw
                  case rel => exact ⟨j + 1, by omega, by rw [HMR.out]; rfl, by go_num, HB7.out⟩
                  case measure => simp [intOf]; omega
                · rw [hap, Bool.true_or] at HMR
                  clear hap
                  go_wp2
                  refine wp_region_later (by kernel_rfl) (by kernel_rfl) ?_
                  repeat (go_big_quiet_step (fail))
                  refine wpQuiet_nil ?_
                  rintro _ ⟨⟨_, hb5⟩, rfl⟩
                  rename_i w7
                  have HB7 := hidden (below_then HBJ.out HBJ.out.size hb5)
                  clear hb5 d0 d1 d2 d3 dx dy HBJ
                  go_wp2
                  go_roundw
                  case rel => exact ⟨j + 1, by omega, by rw [HMR.out], by go_num, HB7.out⟩
                  case measure => simp [intOf]; omega
              · obtain rfl : j = len := by omega
                rw [HAP.out]
                have dx := fun (p : Later wr) => Later.cell ((HBJ.out.cell (p := ⟨lB, d + 1, none⟩) hlb).trans HCX.out) (Nat.lt_of_lt_of_le hlb HBJ.out.size) p
                have dy := fun (p : Later wr) => Later.cell ((HBJ.out.cell (p := ⟨lB, d, none⟩) hlb).trans HCY.out) (Nat.lt_of_lt_of_le hlb HBJ.out.size) p
                have hdc : (d : Int) + 1 < c := by omega
                have hdc2 : (d : Int) < c := by omega
                have hwd : IntKind.i64.wrap ((d : Int) + 1 - 1) = d := by rw [IntKind.wrap_i64]; omega
                have hwd2 : (d : Int) + 1 - 1 = d := by omega
                have hxy : decide ((x : Int) ≤ y) = false := decide_eq_false (by omega)
                have hxy2 : decide (x ≤ y) = false := decide_eq_false (by omega)
                go_wp2
                refine wp_region_later (by kernel_rfl) (by kernel_rfl) ?_
                repeat (go_big_quiet_step (fail))
                refine wpQuiet_nil ?_
                rintro _ ⟨⟨_, hb5⟩, rfl⟩
                rename_i w7
                have HB7 := hidden (below_then HBJ.out HBJ.out.size hb5)
                clear hb5 dx dy HBJ
                go_wp2
                go_roundw
                case rel => exact ⟨d + 1 + 1, by omega, by omega, by go_num, HB7.out⟩
                case measure => simp [intOf]; omega
          · obtain rfl : k = c := by omega
            have HBE := hidden (below_then H5.out H5.out.size HBK.out)
            go_wp2_with fail
            refine (knows_calls _).mono ?_
            rintro e w7 ⟨rfl, hb7⟩
            have HB7 := hidden (below_after HBE.out hb7)
            clear hb7
            go_wp2
            go_ret
            exact ⟨rfl, HB7.out⟩

set_option maxRecDepth 100000 in
theorem lifted (os : Os) (started : os.Started) (H : Type) (enc : TypeId × Value → H) :
    ReturnsInHanded {} Try.checked os 5 .any (Rows.kindFineSpec.pre6 enc Try.prog Try.f5 Rows.kindFineRow.domain false) (Rows.kindFineSpec.post enc Try.prog Try.f5 false true false false) := by
  refine returnsInHanded_of_change (C := Try.checked) own started (by kernel_rfl) Try.func5
    (ChangeSpec.witness6 (enc := enc) (C := Try.checked) false ⟨#[], #[.slice none 0 0], []⟩ 8 (by kernel_rfl) (by kernel_rfl) (by kernel_rfl) (by kernel_rfl)) ?_
  intro W base args ds gs before hval0 hW hcnd _
  have hval : ∀ (j : Nat) t v, Try.f5.params[j]? = some t → args[j]? = some v → Value.okWide Try.prog W .any base t v := hval0
  have hW' : DataW.Whole enc Try.prog Try.f5.params.toList Rows.kindFineSpec.vars false W args.toList ds gs before := hW
  obtain ⟨p, q, hA0, hV, rfl, hfz, hnd⟩ := hW
  have hA : DataW.TrodAll enc Try.prog W 0 (fun _ => true) true Try.f5.params.toList args.toList ds p := hA0
  have hlt : ∀ x ∈ p, x.block < W.heap.size := fun x hx => hW'.lt x (List.mem_append_left _ hx)
  rw [Try.params5] at hA hval
  obtain ⟨v0, vs0, d0, ds0, p0, q0, hargs, hd0, hp0, h0, r0⟩ := trodAll_cons hA
  obtain ⟨rfl, _, _⟩ := trodAll_nil r0
  obtain rfl : args = #[v0] := by cases args; simp_all
  obtain ⟨a0, len0, cap0, rfl⟩ := okWide_slice Try.underlying22 (hval 0 22 v0 rfl rfl)
  obtain ⟨z0, w0⟩ := open_sets h0
  refine (walk a0 len0 cap0 z0 W w0).mono fun e W' ⟨he, hb⟩ => ⟨_, he, ends_true hW' rfl (by kernel_rfl) ?_ (by kernel_rfl) hb⟩
  intro xs hxs
  match xs, hxs with
  | [_], _ => rfl

theorem proved : Rows.KindFineSaid :=
  OpenClaim.holds_of_wide 5 Try.f5 rfl rfl rfl rfl rfl rfl rfl ⟨rfl, rfl, rfl, rfl, rfl⟩ rfl rfl rfl rfl rfl (by kernel_rfl) Try.func5 (by kernel_rfl)
    (of_decide_eq_true (by kernel_rfl)) (by unfold Func.isWrapper; first | (rw [if_pos (by decide +kernel)]; kernel_rfl) | (rw [if_neg (by decide +kernel)]; exact ⟨rfl, rfl⟩))
    (fun os started H enc _ => lifted os started H enc)
end Go.Proofs.Ytanjpajnciifiaa.lawKindFine
