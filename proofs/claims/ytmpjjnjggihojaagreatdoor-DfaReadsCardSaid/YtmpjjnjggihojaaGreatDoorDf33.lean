/- SpKn, FuRunP, FuTwo, DfVal, put together. -/
import Derived.Test.YtmpjjnjggihojaaGreatDoorDf32
import Derived.Test.YtmpjjnjggihojaaGreatDoorDf18
import Derived.Test.YtmpjjnjggihojaaGreatDoorDf04
import Derived.Test.YtmpjjnjggihojaaGreatDoorDf21
import Derived.Test.YtmpjjnjggihojaaGreatDoorDf28
import Derived.Test.YtmpjjnjggihojaaGreatDoorDf20
import Derived.Test.YtmpjjnjggihojaaGreatDoorDf23
/- What every statement of stage 10 knows besides: the chapter's example. -/
namespace Go.Proofs.YtmpjjnjggihojaaGreatDoor
open Go.RowKit Go.Lib Go.Joins
theorem rowz_lits (w : World) (l : List Int) (b n : Nat) (hb : b = w.heap.size) (hn : n = l.length) (hl : n ≤ 1000) (cur : Array Value) (hc : cur = (l.map (Value.int .i64)).toArray) : RowZ (w.alloc (.cells cur 3)) w.heap.size (.slice (some ⟨b, 0, none⟩) n n) l := by
  subst hb hc hn
  unfold RowZ
  have h := World.ownsRow_lit (e := 3) (size := 1) w (l.map (Value.int .i64)).toArray l.length (Nat.le_refl _) (by unfold maxLen; omega) (by simp)
  simpa using h
end Go.Proofs.YtmpjjnjggihojaaGreatDoor

/- Contract of Run. -/
namespace Go.Proofs.YtmpjjnjggihojaaGreatDoor
open Go.RowKit Go.Lib Go.Joins
end Go.Proofs.YtmpjjnjggihojaaGreatDoor

/- The chapter's two tokens, a+ and ab. -/
namespace Go.Proofs.YtmpjjnjggihojaaGreatDoor
open Go.RowKit Go.Lib Go.Joins
def apL : List Stp := [bS 97, kStp 6]
def abL : List Stp := [bS 97, bS 98, kStp 3]
def apT : ByteArray := ⟨#[97, 43]⟩
def abT : ByteArray := ⟨#[97, 98]⟩
def twoT : List (List Stp) := [apL, abL]
theorem two_few : FewT twoT := by
  refine ⟨by decide, fun i => ?_, fun i s hs => ?_⟩
  · match i with
    | 0 => decide
    | 1 => decide
    | _ + 2 => simp [twoT]
  · have hk : ∀ k, (kStp k).wide := fun k => ⟨by simp [kStp], by simp [kStp], by simp [kStp], by simp [kStp]⟩
    have hb : ∀ c, (bS c).wide := fun c => by
      have h := fun i => word_lt (fOne c.toNat) i
      exact ⟨⟨Int.natCast_nonneg _, by have := h 0; simp only [bS, sStp]; omega⟩, ⟨Int.natCast_nonneg _, by have := h 1; simp only [bS, sStp]; omega⟩, ⟨Int.natCast_nonneg _, by have := h 2; simp only [bS, sStp]; omega⟩, ⟨Int.natCast_nonneg _, by have := h 3; simp only [bS, sStp]; omega⟩⟩
    match i with
    | 0 =>
      simp only [twoT, apL, List.getD_cons_zero, List.mem_cons, List.not_mem_nil, or_false] at hs
      rcases hs with rfl | rfl
      · exact hb _
      · exact hk _
    | 1 =>
      simp only [twoT, abL, List.getD_cons_succ, List.getD_cons_zero, List.mem_cons, List.not_mem_nil, or_false] at hs
      rcases hs with rfl | rfl | rfl
      · exact hb _
      · exact hb _
      · exact hk _
    | _ + 2 => simp [twoT] at hs
theorem two_len : (fuseM twoT).sets.length = 3 ∧ (fuseM twoT).first.length ≤ 100 := by decide +kernel
end Go.Proofs.YtmpjjnjggihojaaGreatDoor

/- The chapter's machine: four states, where its words lead, and a label: the model by the kernel. -/
namespace Go.Proofs.YtmpjjnjggihojaaGreatDoor
open Go.RowKit

theorem two14_right : rightB (fuseM twoT) = true := by decide +kernel
theorem two14_cnt : fndN (fuseM twoT) 100 = 4 := by decide +kernel
theorem two14_err : errB (fuseM twoT) 100 = 0 := by
  unfold errB
  rw [if_neg (by rw [two14_right]; decide), if_neg (by omega), show (100 : Int).toNat = 100 from rfl, two14_cnt]
  rfl
theorem two14_n : cntB (fuseM twoT) 100 = 4 := by
  unfold cntB
  rw [if_pos two14_err, show (100 : Int).toNat = 100 from rfl, two14_cnt]
  rfl
theorem two14_m : machB (fuseM twoT) 100 = machM (fuseM twoT) 4 := by
  unfold machB
  rw [if_pos two14_err, show (100 : Int).toNat = 100 from rfl, two14_cnt]
theorem two14_a : runD (machM (fuseM twoT) 4) [97] = 1 := by decide +kernel
theorem two14_aa : runD (machM (fuseM twoT) 4) [97, 97] = 2 := by decide +kernel
theorem two14_ab : runD (machM (fuseM twoT) 4) [97, 98] = 3 := by decide +kernel
theorem two14_b : runD (machM (fuseM twoT) 4) [98] = -1 := by decide +kernel
theorem two14_3 : labelD (machM (fuseM twoT) 4) 3 = 1 := by decide +kernel
end Go.Proofs.YtmpjjnjggihojaaGreatDoor
