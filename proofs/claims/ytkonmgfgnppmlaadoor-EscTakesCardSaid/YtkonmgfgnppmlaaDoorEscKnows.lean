/- Contracts of Get, the reference's Get, and what the statements of layer 5 know: the chapter's examples. -/
import Derived.Test.YtkonmgfgnppmlaaDoorEscTake
import Derived.Test.YtkonmgfgnppmlaaDoorEscTakeR
namespace Go.Proofs.YtkonmgfgnppmlaaDoor
open Go.RowKit

theorem get_bad {l : List UInt8} {x : List UInt8 × Nat × Int} (h : takeV l 0 = x) (he : x.2.2 ≠ 0) : getV l = ([], x.2.2) := by
  subst h
  rw [getV, if_pos he]
theorem get_more {l : List UInt8} {x : List UInt8 × Nat × Int} (h : takeV l 0 = x) (he : x.2.2 = 0) (hn : x.2.1 < l.length) : getV l = ([], 3) := by
  subst h
  rw [getV, if_neg (by simp [he]), if_pos hn]
theorem get_all {l : List UInt8} {x : List UInt8 × Nat × Int} (h : takeV l 0 = x) (he : x.2.2 = 0) (hn : ¬ x.2.1 < l.length) : getV l = (x.1, 0) := by
  subst h
  rw [getV, if_neg (by simp [he]), if_neg hn]

set_option maxHeartbeats 1000000 in
theorem get_calls (s : ByteArray) (w : World) (ht : Tab w) (hs : s.size ≤ 100000) :
    Calls Tryd.prog 13 #[.string s] w fun e w' => e = T2 (getV s.data.toList) ∧ Below w.heap.size w w' := by
  have hl : s.data.toList.length = s.size := by simp
  have hT := hidden (take_calls s 0 w ht hs)
  clear ht
  obtain ⟨x, hx⟩ : ∃ x, takeV s.data.toList 0 = x := ⟨_, rfl⟩
  rw [hx] at hT
  by_cases he : x.2.2 = 0
  · by_cases hn : x.2.1 < s.size
    · have hR := hidden (get_more hx he (by omega))
      obtain ⟨t, n, e⟩ := x
      simp only at he hn
      subst he
      have hd : decide ((n : Int) < s.size) = true := by simp; omega
      clear hx hl
      unfold T3 at hT
      go_enter Tryd.func13, Tryd.ntmps13
      go_wp2_with fail
      refine hT.out.mono ?_
      rintro e w1 ⟨rfl, hb1⟩
      go_wp2
      go_ret2
      exact ⟨by rw [hR.out]; rfl, hb1⟩
    · have hR := hidden (get_all hx he (by omega))
      obtain ⟨t, n, e⟩ := x
      simp only at he hn
      subst he
      have hd : decide ((n : Int) < s.size) = false := by simp; omega
      clear hx hl
      unfold T3 at hT
      go_enter Tryd.func13, Tryd.ntmps13
      go_wp2_with fail
      refine hT.out.mono ?_
      rintro e w1 ⟨rfl, hb1⟩
      go_wp2
      go_ret2
      exact ⟨by rw [hR.out]; rfl, hb1⟩
  · have hR := hidden (get_bad hx he)
    obtain ⟨t, n, e⟩ := x
    simp only at he
    have hd : (e == 0) = false := by simpa using he
    clear hx hl he
    unfold T3 at hT
    go_enter Tryd.func13, Tryd.ntmps13
    go_wp2_with fail
    refine hT.out.mono ?_
    rintro e w1 ⟨rfl, hb1⟩
    go_wp2
    go_ret2
    exact ⟨by rw [hR.out]; rfl, hb1⟩
set_option maxHeartbeats 1000000 in
theorem rget_calls (s : ByteArray) (w : World) (hs : s.size ≤ 100000) :
    Calls Tryd.prog 14 #[.string s] w fun e w' => e = T2 (getV s.data.toList) ∧ Below w.heap.size w w' := by
  have hl : s.data.toList.length = s.size := by simp
  have hT := hidden (rtake_calls s 0 w hs)
  obtain ⟨x, hx⟩ : ∃ x, takeV s.data.toList 0 = x := ⟨_, rfl⟩
  rw [hx] at hT
  by_cases he : x.2.2 = 0
  · by_cases hn : x.2.1 < s.size
    · have hR := hidden (get_more hx he (by omega))
      obtain ⟨t, n, e⟩ := x
      simp only at he hn
      subst he
      have hd : decide ((n : Int) < s.size) = true := by simp; omega
      clear hx hl
      unfold T3 at hT
      go_enter Tryd.func14, Tryd.ntmps14
      go_wp2_with fail
      refine hT.out.mono ?_
      rintro e w1 ⟨rfl, hb1⟩
      go_wp2
      go_ret2
      exact ⟨by rw [hR.out]; rfl, hb1⟩
    · have hR := hidden (get_all hx he (by omega))
      obtain ⟨t, n, e⟩ := x
      simp only at he hn
      subst he
      have hd : decide ((n : Int) < s.size) = false := by simp; omega
      clear hx hl
      unfold T3 at hT
      go_enter Tryd.func14, Tryd.ntmps14
      go_wp2_with fail
      refine hT.out.mono ?_
      rintro e w1 ⟨rfl, hb1⟩
      go_wp2
      go_ret2
      exact ⟨by rw [hR.out]; rfl, hb1⟩
  · have hR := hidden (get_bad hx he)
    obtain ⟨t, n, e⟩ := x
    simp only at he
    have hd : (e == 0) = false := by simpa using he
    clear hx hl he
    unfold T3 at hT
    go_enter Tryd.func14, Tryd.ntmps14
    go_wp2_with fail
    refine hT.out.mono ?_
    rintro e w1 ⟨rfl, hb1⟩
    go_wp2
    go_ret2
    exact ⟨by rw [hR.out]; rfl, hb1⟩

theorem get_41 : getV [34, 92, 120, 52, 49, 34] = ([], 3) := by decide +kernel
theorem put_a200 : putB ⟨#[97, 34, 10, 200]⟩ = ⟨#[34, 97, 92, 34, 92, 110, 92, 120, 99, 56, 34]⟩ := by decide +kernel
theorem knows_calls (w : World) (ht : Tab w) : Calls Tryd.prog 6 #[] w fun e w' => e = .returned (.bool true) ∧ Below w.heap.size w w' := by
  have h1 := hidden (fun W h => get_calls ⟨#[34, 92, 120, 52, 49, 34]⟩ W h (by decide))
  have h2 := hidden (fun W h => put_calls ⟨#[97, 34, 10, 200]⟩ W h (by decide))
  rw [get_41] at h1
  rw [put_a200] at h2
  unfold T2 at h1
  have HT := hidden ht
  clear ht
  go_enter Tryd.func6, Tryd.ntmps6
  go_wp2_with fail
  refine (h1.out _ HT.out).mono ?_
  rintro e w1 ⟨rfl, hb1⟩
  go_wp2_with fail
  refine (h2.out _ (HT.out.below hb1)).mono ?_
  rintro e w2 ⟨rfl, hb2⟩
  go_wp2
  go_ret
  exact ⟨rfl, below_after hb1 hb2⟩
end Go.Proofs.YtkonmgfgnppmlaaDoor
