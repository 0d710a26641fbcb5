/- Contracts of the reference's put, Of, Union and Kept. -/
import Derived.Test.YtbnohmbdfcapkaaDoorMaRow
namespace Go.Proofs.YtbnohmbdfcapkaaDoor
open Go.RowKit Go.Lib Go.Joins

/-- a row of the call's own, and what was there -/
def MkZ (w : World) (l : List Int) (v : Value) (wr : World) : Prop := RowZ wr w.heap.size v l ∧ Below w.heap.size w wr
theorem MkZ.below {w wr w' : World} {l : List Int} {v : Value} (h : MkZ w l v wr) (hb : Below wr.heap.size wr w') : MkZ w l v w' := ⟨h.1.kept hb, below_then h.2 h.2.size hb⟩
theorem take_moreZ (l : List Int) (k : Nat) (h : k < l.length) : l.take (k + 1) = l.take k ++ [l.getD k 0] := by
  rw [List.take_succ_eq_append_getElem h, List.getD_eq_getElem?_getD, List.getElem?_eq_getElem h]
  rfl
set_option maxHeartbeats 8000000 in
set_option maxRecDepth 100000 in
theorem rput_calls (w : World) (v : Value) (l : List Int) (n : Int) (h : RdZ w.heap.size w v l) (hl : l.length ≤ 90000) : Calls Tryd.prog 16 #[v, .int .i64 n] w fun e w' => ∃ u, e = .returned u ∧ ((u = v ∧ n ∈ l) ∨ (n ∉ l ∧ RowZ w' w.heap.size u (putV l n))) ∧ Below w.heap.size w w' := by
  have HH := hidden (rhas_calls w v l n h)
  have HR := hidden h
  by_cases hm : n ∈ l
  · rw [decide_eq_true hm] at HH
    have HM := hidden hm
    obtain ⟨a, cap, rfl⟩ := h.form
    clear h hm
    go_enter Tryd.func16, Tryd.ntmps16
    go_wp2_with fail
    refine HH.out.mono ?_
    rintro e w1 ⟨rfl, hb1⟩
    go_wp2
    go_ret
    exact ⟨_, rfl, .inl ⟨rfl, HM.out⟩, hb1⟩
  · rw [decide_eq_false hm] at HH
    have HM := hidden hm
    have HPV := hidden (show putV l n = l.take (lead l n) ++ n :: l.drop (lead l n) from if_neg hm)
    have HLA := hidden (fun i hi => lead_at l n i hi)
    have hle := lead_le l n
    have HTM := hidden (fun k hk => take_moreZ l k hk)
    obtain ⟨a, cap, rfl, h1, h2, _, h4⟩ := h
    have H4 := hidden h4
    have HTL := hidden (fun k (hk : k ≤ l.length) => (show (l.take k).length = k by rw [List.length_take]; omega))
    obtain ⟨m, hmm⟩ : ∃ m, m = l.length := ⟨_, rfl⟩
    have HMM := hidden hmm
    rw [← hmm] at HLA hle HTM H4 HTL HH hl h1 ⊢
    obtain ⟨ld, hld⟩ : ∃ ld, ld = lead l n := ⟨_, rfl⟩
    rw [← hld] at HLA HPV hle
    unfold maxLen at h2
    clear h4 hm hmm hld
    go_enter Tryd.func16, Tryd.ntmps16
    go_wp2_with fail
    refine HH.out.mono ?_
    rintro e w1 ⟨rfl, hb1⟩
    have HS := hidden (show MkZ w [] (.slice (some ⟨w1.heap.size, 0, none⟩) 0 0) (w1.alloc (.cells #[] 3)) from ⟨(RowZ.lit w1 _ rfl _ rfl).lower hb1.size, hb1.alloc hb1.size _⟩)
    clear hb1
    go_wp2
    go_loopw [5, 6] (fun ov i wr => ∃ (k : Nat) (o : Value), k ≤ ld ∧ i = .int .i64 k ∧ o = ov ∧ MkZ w (l.take k) o wr) (fun _ i _ => ld - (intOf i).toNat)
    case atStart => exact ⟨0, _, by omega, rfl, rfl, HS.out⟩
    case round =>
      obtain ⟨k, o, hk, rfl, rfl, hr⟩ := hrel
      have HK := hidden hr
      have hla := HLA.out k hk
      have htl := HTL.out k (by omega)
      obtain ⟨av, cv, rfl⟩ := hr.1.form
      rw [htl] at HK ⊢
      have HTK := hidden htl
      clear hr htl
      by_cases hlt : k < ld
      · obtain ⟨hkm, hx⟩ := hla.1 hlt
        obtain ⟨b, off, rfl, hbB, hc⟩ := H4.out (by omega)
        have c1 := (HK.out.2.cell (p := ⟨b, off + k, none⟩) hbB).trans (hc k hkm)
        have HT := hidden (HTM.out k hkm)
        have hq : decide (l.getD k 0 < n) = true := decide_eq_true hx
        have d0 : decide ((k : Int) < (m : Int)) = true := decide_eq_true (by omega)
        have d0' : decide (k < m) = true := decide_eq_true hkm
        generalize l.getD k 0 = x at *
        have HLT := hidden hlt
        clear hc hx hla
        go_wp2_with (at_builtin; refine app_z rfl _ _ rfl rfl (HK.out.1.kept ((Below.refl wr.heap.size wr).alloc (Nat.le_refl _) (.cells #[.int .i64 x] 3))) rfl (heap_alloc_new wr _) HTK.out (by omega) (Nat.le_trans HK.out.2.size (by simp)) ?_; intro g' c' w4 hr4 hg4 hb4)
        have HK4 := hidden (show MkZ w (l.take (k + 1)) (.slice (some ⟨g', 0, none⟩) (k + 1) c') w4 from ⟨by rw [HT.out]; exact hr4, (HK.out.2.alloc HK.out.2.size _).trans hb4⟩)
        clear hr4 hg4 hb4
        go_wp2
        have hlt' := HLT.out
        go_roundw
        case rel => exact ⟨k + 1, _, by omega, by go_num, rfl, HK4.out⟩
        case measure => simp [intOf]; omega
      · obtain rfl : k = ld := by omega
        have hcs : (m ≤ k) ∨ (k < m ∧ n ≤ l.getD k 0) := by
          by_cases h : k < m
          · exact .inr ⟨h, by have := mt hla.2 hlt; simp only [h, true_and] at this; omega⟩
          · exact .inl (by omega)
        clear hla hlt
        have HCS := hidden (True.intro)
        rcases hcs with hcs | ⟨hcs, hx⟩
        case' inl =>
          have d0 : decide ((k : Int) < (m : Int)) = false := decide_eq_false (by omega)
          have d0' : decide (k < m) = false := decide_eq_false (by omega)
          clear hcs
        case' inr =>
          obtain ⟨b, off, rfl, hbB, hc⟩ := H4.out (by omega)
          have c1 := (HK.out.2.cell (p := ⟨b, off + k, none⟩) hbB).trans (hc k hcs)
          have hq : decide (l.getD k 0 < n) = false := decide_eq_false (by omega)
          have d0 : decide ((k : Int) < (m : Int)) = true := decide_eq_true (by omega)
          have d0' : decide (k < m) = true := decide_eq_true hcs
          generalize l.getD k 0 = x at *
          clear hc hx
        all_goals
          go_wp2_with (at_builtin; refine app_z rfl _ _ rfl rfl (HK.out.1.kept ((Below.refl wr.heap.size wr).alloc (Nat.le_refl _) (.cells #[.int .i64 n] 3))) rfl (heap_alloc_new wr _) HTK.out (by omega) (Nat.le_trans HK.out.2.size (by simp)) ?_; intro g' c' w4 hr4 hg4 hb4)
          have HK4 := hidden (show MkZ w (l.take k ++ n :: (l.drop k).take 0) (.slice (some ⟨g', 0, none⟩) (k + 1) c') w4 from ⟨by rw [List.take_zero]; exact hr4, (HK.out.2.alloc HK.out.2.size _).trans hb4⟩)
          clear hr4 hg4 hb4
          go_wp2
          go_loopw [5, 8] (fun ov i wr2 => ∃ (j : Nat) (o : Value), k ≤ j ∧ j ≤ m ∧ i = .int .i64 j ∧ o = ov ∧ MkZ w (l.take k ++ n :: (l.drop k).take (j - k)) o wr2) (fun _ i _ => m - (intOf i).toNat)
          case atStart => exact ⟨k, _, Nat.le_refl _, by omega, rfl, rfl, by rw [Nat.sub_self]; exact HK4.out⟩
          case round =>
            obtain ⟨j, o, hkj, hjm, rfl, rfl, hr⟩ := hrel
            have HJ := hidden hr
            have hlen : (l.take k ++ n :: (l.drop k).take (j - k)).length = j + 1 := by
              have := HMM.out
              simp only [List.length_append, List.length_take, List.length_cons, List.length_drop]
              omega
            obtain ⟨av2, cv2, rfl⟩ := hr.1.form
            rw [hlen] at HJ ⊢
            have HLN := hidden hlen
            clear hr hlen
            by_cases hlj : j < m
            · obtain ⟨b2, off2, e2, hbB2, hc2⟩ := H4.out (by omega)
              have c2 := (HJ.out.2.cell (p := ⟨b2, off2 + j, none⟩) hbB2).trans (hc2 j hlj)
              have HT := hidden (show l.take k ++ n :: (l.drop k).take (j + 1 - k) = (l.take k ++ n :: (l.drop k).take (j - k)) ++ [l.getD j 0] from by
                have e : (l.drop k).getD (j - k) 0 = l.getD j 0 := by
                  simp only [List.getD_eq_getElem?_getD, List.getElem?_drop, show k + (j - k) = j by omega]
                rw [show j + 1 - k = (j - k) + 1 by omega, take_moreZ (l.drop k) (j - k) (by rw [List.length_drop]; have := HMM.out; omega), e]
                simp)
              have E2 := hidden e2
              have f0 : decide ((j : Int) < (m : Int)) = true := decide_eq_true (by omega)
              have f0' : decide (j < m) = true := decide_eq_true hlj
              generalize l.getD j 0 = y at *
              have HLT := hidden hlj
              clear hc2
              try (cases e2)
              go_wp2_with (at_builtin; refine app_z rfl _ _ rfl rfl (HJ.out.1.kept ((Below.refl wr.heap.size wr).alloc (Nat.le_refl _) (.cells #[.int .i64 y] 3))) rfl (heap_alloc_new wr _) HLN.out (by omega) (Nat.le_trans HJ.out.2.size (by simp)) ?_; intro g2 c3 w5 hr5 hg5 hb5)
              have HK5 := hidden (show MkZ w (l.take k ++ n :: (l.drop k).take (j + 1 - k)) (.slice (some ⟨g2, 0, none⟩) (j + 1 + 1) c3) w5 from ⟨by rw [HT.out]; exact hr5, (HJ.out.2.alloc HJ.out.2.size _).trans hb5⟩)
              clear hr5 hg5 hb5
              go_wp2
              have hlt' := HLT.out
              go_roundw
              case rel => exact ⟨j + 1, _, by omega, by omega, by go_num, rfl, HK5.out⟩
              case measure => simp [intOf]; omega
            · obtain rfl : j = m := by omega
              have HD := hidden (show l.take k ++ n :: (l.drop k).take (j - k) = putV l n from by
                have e : (l.drop k).take (j - k) = l.drop k := List.take_of_length_le (by rw [List.length_drop, ← HMM.out]; exact Nat.le_refl _)
                rw [HPV.out, e])
              have f0 : decide ((j : Int) < (j : Int)) = false := by simp
              go_wp2
              go_ret
              exact ⟨_, rfl, .inr ⟨HM.out, by rw [← HD.out]; exact HJ.out.1⟩, HJ.out.2⟩
end Go.Proofs.YtbnohmbdfcapkaaDoor
