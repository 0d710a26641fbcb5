/- The contract of Take. -/
import Derived.Test.YtkonmgfgnppmlaaDoorEscRow
namespace Go.Proofs.YtkonmgfgnppmlaaDoor
open Go.RowKit

set_option maxHeartbeats 4000000 in
set_option maxRecDepth 100000 in
theorem take_calls (s : ByteArray) (i : Int) (w : World) (ht : Tab w) (hs : s.size ≤ 100000) :
    Calls Tryd.prog 11 #[.string s, .int .i64 i] w fun e w' => e = T3 (takeV s.data.toList i) ∧ Below w.heap.size w w' := by
  have hl : s.data.toList.length = s.size := by simp
  obtain ⟨i0, hi, hz0, hz1, hz2⟩ := info_parts infoByte
  have HTab := hidden ht
  clear ht
  by_cases hr : i < 0 ∨ (s.size : Int) < i
  · have hR := hidden (take_range (l := s.data.toList) (i := i) (by rw [hl]; exact hr))
    rcases hr with hr | hr
    · have hd : decide (i < 0) = true := by simpa using hr
      go_enter Tryd.func11, Tryd.ntmps11
      go_wp2
      go_step3
      go_wp2
      try rw [Exit.noGoto_ret]
      go_ret3
      exact ⟨by rw [hR.out]; rfl, Below.refl _ _⟩
    · have hd : decide (i < 0) = false := by simp; omega
      have hd2 : decide ((s.size : Int) < i) = true := by simpa using hr
      go_enter Tryd.func11, Tryd.ntmps11
      go_wp2
      go_step3
      go_wp2
      try rw [Exit.noGoto_ret]
      go_ret3
      exact ⟨by rw [hR.out]; rfl, Below.refl _ _⟩
  obtain ⟨k, rfl⟩ := Int.eq_ofNat_of_zero_le (show 0 ≤ i by omega)
  have hk : k ≤ s.size := by omega
  have hd : decide ((k : Int) < 0) = false := by simp
  have hd2 : decide ((s.size : Int) < k) = false := by simp; omega
  have hd3 : decide (s.size < k) = false := by simp; omega
  clear hr
  have hO := hidden (fun W => opens_calls (s.extract k s.size) W)
  rw [rest_data] at hO
  by_cases hh : (s.data.toList.drop k).head? = some 34
  · rw [show decide ((s.data.toList.drop k).head? = some 34) = true by simpa using hh] at hO
    have hlt : k < s.size := by
      rcases Nat.lt_or_ge k s.size with h | h
      · exact h
      · rw [drop_end s k (by omega)] at hh
        cases hh
    have hS := hidden (stand_start hlt (by rw [drop_at s k hlt] at hh; simpa using hh))
    generalize takeV s.data.toList (k : Int) = x at hS ⊢
    clear hh
    go_enter Tryd.func11, Tryd.ntmps11
    go_wp2
    go_step3
    go_wp2_with fail
    refine (hO.out _).mono ?_
    rintro e w' ⟨rfl, rfl⟩
    go_wp2
    go_step3
    go_wp2
    go_loopw [1, 7] (fun i v wr => ∃ (k : Nat) (out : List UInt8), k ≤ s.size ∧ i = .int .i64 k ∧ Row wr w.heap.size v out ∧ Stand s.data.toList x k out ∧ Below w.heap.size w wr) (fun i _ _ => s.size - (intOf i).toNat)
    case atStart => exact ⟨k + 1, [], by omega, by go_num, Row.nil w _, hS.out, Below.refl _ _⟩
    case round =>
      obtain ⟨k, out, hk, rfl, hv, hS, hb⟩ := hrel
      have HV := hidden hv
      have HS := hidden hS
      have HB := hidden hb
      clear hv hS hb
      by_cases hlt : k < s.size
      · have hne : ((k : Int) == (s.size : Int)) = false := by simp; omega
        by_cases hc : s[k] = 34
        · have hx : ((s[k].toNat : Int)) = 34 := by rw [hc]; rfl
          have hE := hidden (stand_end HS.out hlt hc)
          have hT := HV.out.text
          clear hc
          go_wp2
          try rw [Exit.noGoto_ret]
          go_ret3
          exact ⟨by rw [hE.out]; rfl, HB.out⟩
        · have hx := not_quote hc
          have hne0 : s.data.toList.drop k ≠ [] := by rw [drop_at s k hlt]; simp
          rcases stand_ways HS.out hlt hc with ⟨n, m, hn, hm, hkm, hrd, hst⟩ | ⟨e, he, hrd, hxx⟩
          · have hO := hidden (fun W h => one_calls (s.extract k s.size) W h (by rw [rest_data]; exact hne0))
            rw [rest_data, hrd] at hO
            have HST := hidden hst
            clear hrd hst hc hne0
            go_wp2_with fail
            refine (hO.out _ (HTab.out.below HB.out)).mono ?_
            rintro e w1 ⟨rfl, hb1⟩
            unfold R3
            have hv1 := HV.out.later hb1
            have HB1 := hidden (below_after HB.out hb1)
            go_wp2_with (at_builtin; refine wpList_append_own _ rfl _ _ 35 rfl w.heap.size 5 i0 (.int .u8 0) 1 1 Tryd.underlying35 hi hz0 hz1 hz2 rfl (by decide) _ _ _ rfl (World.ownsRow.alloc hv1 _) ⟨w1.heap.size, 0, none⟩ 1 1 [.int .u8 (n : Int)] rfl rfl ?c1 ?c2 ?c3 ?c4 ?c5 ?_)
            case c1 =>
              intro j u hj
              match j, hj with
              | 0, hj => simp at hj; subst hj; simp [Addr.add]
            case c2 => intro u hu; simp at hu; subst hu; rfl
            case c3 => have := HS.out; obtain ⟨_, _, _, ho⟩ := this; unfold maxLen; omega
            case c4 => have := HS.out; obtain ⟨_, _, _, ho⟩ := this; omega
            case c5 => have := HB1.out.size; simp; omega
            intro v' w2 hown' hg _
            have HR := hidden (Row.more hn hown')
            have HB2 := hidden ((HB1.out.alloc HB1.out.size _).grown hg (by have := HB1.out.size; simp; omega) (fun k hk => (World.ownsRow.lt hv1 k hk).1))
            clear hown' hg hv1 hb1
            go_wp2
            go_roundw
            case rel => first | exact ⟨k + m, _, hkm, by go_num, HR.out, HST.out, HB2.out⟩ | ((repeat apply Exists.intro); exact ⟨⟨k + m, _, hkm, by go_num, HR.out, HST.out, HB2.out⟩, rfl⟩)
            case measure => simp [intOf]; omega
          · have hO := hidden (fun W h => one_calls (s.extract k s.size) W h (by rw [rest_data]; exact hne0))
            rw [rest_data, hrd] at hO
            have HX := hidden hxx
            clear hrd hc hxx hne0
            rcases he with rfl | rfl
            all_goals
              go_wp2_with fail
              refine (hO.out _ (HTab.out.below HB.out)).mono ?_
              rintro e w1 ⟨rfl, hb1⟩
              unfold R3
              go_wp2
              try rw [Exit.noGoto_ret]
              go_ret3
              exact ⟨by rw [HX.out]; rfl, below_after HB.out hb1⟩
      · have hne : ((k : Int) == (s.size : Int)) = true := by simp; omega
        have hE := hidden (stand_none HS.out hlt)
        go_wp2
        try rw [Exit.noGoto_ret]
        go_ret3
        exact ⟨by rw [hE.out]; rfl, HB.out⟩
  · have hR := hidden (take_none (l := s.data.toList) (k := k) (by omega) hh)
    rw [show decide ((s.data.toList.drop k).head? = some 34) = false by simpa using hh] at hO
    clear hh
    go_enter Tryd.func11, Tryd.ntmps11
    go_wp2
    go_step3
    go_wp2_with fail
    refine (hO.out _).mono ?_
    rintro e w' ⟨rfl, rfl⟩
    go_wp2
    try rw [Exit.noGoto_ret]
    go_ret3
    exact ⟨by rw [hR.out]; rfl, Below.refl _ _⟩
end Go.Proofs.YtkonmgfgnppmlaaDoor
