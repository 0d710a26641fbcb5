/- Contracts of the reference's functions on two sets, on a list of sets, and of its Not. -/
import Derived.Test.YtfnpepmbklclfaaDoorSetLoops
import Derived.Deep.RegionHeld3
namespace Go.Proofs.YtfnpepmbklclfaaDoor
open Go.RowKit

theorem rone_calls (k : Nat) (w : World) (h : k < 256) :
    Calls Tryd.prog 9 #[.int .u8 k] w fun e w' => e = .returned (.agg #[.int .u64 (word (fOne k) 0), .int .u64 (word (fOne k) 1), .int .u64 (word (fOne k) 2), .int .u64 (word (fOne k) 3)]) ∧ Below w.heap.size w w' := by
  have hw := fun w => with_nat fNone k w h
  simp only [word_none] at hw
  have HW := hidden hw
  clear hw
  go_enter Tryd.func9, Tryd.ntmps9
  go_wp2_with fail
  refine (HW.out _).mono ?_
  rintro e w' ⟨rfl, hb1⟩
  have hS := (SetAt.new w fNone).below (by
    rw [zeros_none] at hb1
    exact hb1)
  obtain ⟨c0, c1, c2, c3, f0, f1, f2, f3⟩ := hS.facts
  have HS := hidden hS
  have HB := hidden (below_then ((Below.refl w.heap.size w).alloc (Nat.le_refl _) _) (by simp) hb1)
  clear hS hb1
  go_wp2
  exact ret_setAt Tryd.results9 rfl rfl HS.out.stored (fun n _ => by simp [fOr, fNone]) ⟨rfl, below_cells HB.out _ (by omega) _ _ _ _⟩

theorem rhas_nat (f : Nat → Bool) (k : Nat) (w : World) (h1 : k < 256) :
    Calls Tryd.prog 21 #[(.agg #[.int .u64 (word (f) 0), .int .u64 (word (f) 1), .int .u64 (word (f) 2), .int .u64 (word (f) 3)]), .int .u8 k] w fun e w' => e = .returned (.bool (f k)) ∧ Below w.heap.size w w' := by
  have := rhas_calls f k w (by omega) (by omega)
  rwa [Int.toNat_natCast] at this

/-- which bytes two sets have -/
def fTwo (how : Int) (f g : Nat → Bool) (n : Nat) : Bool := (how == 0 && (f n || g n)) || (how == 1 && (f n && g n)) || (how == 2 && (f n && !g n))

theorem bcell {W w1 : World} (hb : Below W.heap.size W w1) : (∀ b o, b < W.heap.size → w1.cell? ⟨b, o, none⟩ = W.cell? ⟨b, o, none⟩) ∧ (∀ b o, b < W.heap.size → w1.frozen? ⟨b, o, none⟩ = W.frozen? ⟨b, o, none⟩) :=
  ⟨fun b o h => hb.cell (p := ⟨b, o, none⟩) h, fun b o h => hb.frozen (p := ⟨b, o, none⟩) h⟩

theorem up_step {f : Nat → Bool} {k : Nat} (h : f k = true) (n : Nat) : fOr (fUpto f k) (fOne k) n = fUpto f (k + 1) n := by
  simp only [fOr, fUpto, fOne]
  by_cases e : n = k
  · subst e; simp [h]
  · rw [Bool.eq_iff_iff]; simp [e]; omega
theorem up_skip {f : Nat → Bool} {k : Nat} (h : f k = false) (n : Nat) : fUpto f k n = fUpto f (k + 1) n := by
  simp only [fUpto]
  by_cases e : n = k
  · subst e; simp [h]
  · rw [Bool.eq_iff_iff]; simp; omega

theorem SetAt.alloc {w : World} {B : Nat} {f : Nat → Bool} (h : SetAt w B f) (o : Obj) : SetAt (w.alloc o) B f := (heap_alloc_old w o h.lt).trans h
theorem SetAt.newAt (w : World) (f : Nat → Bool) (B : Nat) (hB : w.heap.size = B) : SetAt (w.alloc (.cells #[.int .u64 (word (f) 0), .int .u64 (word (f) 1), .int .u64 (word (f) 2), .int .u64 (word (f) 3)] 24)) B f := by
  subst hB
  exact SetAt.new w f
theorem SetAt.newNone (w : World) (B : Nat) (hB : w.heap.size = B) : SetAt (w.alloc (.cells #[.int .u64 0, .int .u64 0, .int .u64 0, .int .u64 0] 24)) B fNone := by
  rw [zeros_none]
  exact SetAt.newAt w fNone B hB

set_option maxRecDepth 100000 in
theorem two_calls (how : Int) (f g : Nat → Bool) (w : World) (hH : how = 0 ∨ how = 1 ∨ how = 2) :
    Calls Tryd.prog 16 #[.int .i64 how, (.agg #[.int .u64 (word (f) 0), .int .u64 (word (f) 1), .int .u64 (word (f) 2), .int .u64 (word (f) 3)]), (.agg #[.int .u64 (word (g) 0), .int .u64 (word (g) 1), .int .u64 (word (g) 2), .int .u64 (word (g) 3)])] w fun e w' => e = .returned (.agg #[.int .u64 (word (fTwo how f g) 0), .int .u64 (word (fTwo how f g) 1), .int .u64 (word (fTwo how f g) 2), .int .u64 (word (fTwo how f g) 3)]) ∧ Below w.heap.size w w' := by
  have HH := hidden hH
  clear hH
  go_enter Tryd.func16, Tryd.ntmps16
  go_wp2
  go_loopw [8] (fun i wr => ∃ k : Nat, k ≤ 256 ∧ i = .int .i64 k ∧ SetAt wr w.heap.size f ∧ SetAt wr (w.heap.size + 1) g ∧ SetAt wr (w.heap.size + 1 + 1) fNone ∧ SetAt wr (w.heap.size + 1 + 1 + 1) (fUpto (fTwo how f g) k) ∧ Below w.heap.size w wr) (fun i _ => 256 - (intOf i).toNat)
  case atStart =>
    exact ⟨0, by omega, rfl, (((SetAt.new w f).alloc _).alloc _).alloc _, ((SetAt.newAt _ g _ (by simp)).alloc _).alloc _, (SetAt.newNone _ _ (by simp)).alloc _, (SetAt.newNone _ _ (by simp)).congr fun n _ => (upto_none _ n).symm, by go_grown⟩
  case round =>
    obtain ⟨k, hk, rfl, hF, hG, hA, hS, hb⟩ := hrel
    have HS := hidden hS
    have HA := hidden hA
    have HF := hidden hF
    have HG := hidden hG
    have l1 := hS.lt
    by_cases hlt : k < 256
    · obtain ⟨c0, c1, c2, c3, _, _, _, _⟩ := hF.facts
      obtain ⟨d0, d1, d2, d3, _, _, _, _⟩ := hG.facts
      clear hS hA hF hG
      have hwr : IntKind.u8.wrap (k : Int) = k := by rw [IntKind.wrap_u8]; omega
      go_wp2_with fail
      go_region_held3 (fun w' => w'.cell? ⟨w.heap.size, 0, none⟩ = some (.int .u64 (word f 0)) ∧ w'.cell? ⟨w.heap.size, 1, none⟩ = some (.int .u64 (word f 1)) ∧ w'.cell? ⟨w.heap.size, 2, none⟩ = some (.int .u64 (word f 2)) ∧ w'.cell? ⟨w.heap.size, 3, none⟩ = some (.int .u64 (word f 3)) ∧
        w'.cell? ⟨w.heap.size + 1, 0, none⟩ = some (.int .u64 (word g 0)) ∧ w'.cell? ⟨w.heap.size + 1, 1, none⟩ = some (.int .u64 (word g 1)) ∧ w'.cell? ⟨w.heap.size + 1, 2, none⟩ = some (.int .u64 (word g 2)) ∧ w'.cell? ⟨w.heap.size + 1, 3, none⟩ = some (.int .u64 (word g 3)) ∧ Below wr.heap.size wr w')
        (first | (go_keep; done) | ((try dsimp only); (try go_split_ands); refine ⟨?_, ?_, ?_, ?_, ?_, ?_, ?_, ?_, ?_⟩ <;> (first | assumption | (exact (Below.refl _ _).drew) | (exact below_after ((Below.refl _ _).drew) hb1) | (exact below_after (by assumption) hb1) | ((rw [hb1.cell (by simp; omega)]; (first | assumption | (simp; assumption)))))))
        ((go_at_call 21; refine (rhas_nat _ k _ hlt).mono ?_; rintro e w1 ⟨rfl, hb1⟩; have hz1 := hb1.size; (try simp at hz1)))
      go_split_ands
      have hB : Below wr.heap.size wr w1 := by assumption
      have hS' := HS.out.below hB
      have hA' := HA.out.below hB
      have hF' := HF.out.below hB
      have hG' := HG.out.below hB
      have hb' := hidden (below_then hb (by omega) hB)
      obtain ⟨p0, p1, p2, p3, q0, q1, q2, q3⟩ := hS'.facts
      have HS' := hidden hS'
      have HA' := hidden hA'
      have HF' := hidden hF'
      have HG' := hidden hG'
      clear hB hS' hA' hF' hG' HS HA HF HG hb c0 c1 c2 c3 d0 d1 d2 d3
      have hH := HH.out
      clear HH
      rcases hH with e | e | e
      all_goals subst e
      all_goals cases hf : f k <;> cases hg : g k
      all_goals go_wp2_with fail
      all_goals first
        | exact ⟨⟨k + 1, by omega, by go_num, HF'.out, HG'.out, HA'.out, HS'.out.congr fun n _ => up_skip (by simp [fTwo, hf, hg]) n, hb'.out⟩, by simp [intOf]; omega⟩
        | ((with_reducible refine (with_nat _ k _ (by omega)).mono ?_)
           rintro e w2 ⟨rfl, hb2⟩
           have hS2 := HS'.out.below hb2
           have hA2 := HA'.out.below hb2
           have hF2 := HF'.out.below hb2
           have hG2 := HG'.out.below hb2
           have l2 := hb'.out.size
           have HB2 := hidden (below_then hb'.out (by omega) hb2)
           clear p0 p1 p2 p3 q0 q1 q2 q3
           obtain ⟨p0, p1, p2, p3, q0, q1, q2, q3⟩ := hS2.facts
           have HS2 := hidden hS2
           have HA2 := hidden hA2
           have HF2 := hidden hF2
           have HG2 := hidden hG2
           clear hS2 hA2 hF2 hG2 hb2 HS' HA' HF' HG'
           go_wp2
           go_roundw
           case rel =>
             exact ⟨k + 1, by omega, by go_num, set_other HF2.out (by omega) _ _ _ _, set_other HG2.out (by omega) _ _ _ _, set_other HA2.out (by omega) _ _ _ _, HS2.out.stored.congr fun n _ => up_step (by simp [fTwo, hf, hg]) n,
               below_cells HB2.out _ (by omega) _ _ _ _⟩
           case measure => simp [intOf]; omega)
    · have e : k = 256 := by omega
      have HE := hidden e
      obtain ⟨c0, c1, c2, c3, f0, f1, f2, f3⟩ := hS.facts
      obtain ⟨d0, d1, d2, d3, g0, g1, g2, g3⟩ := hA.facts
      clear hS hA hF hG e
      go_wp2
      refine ret_setAt Tryd.results16 rfl rfl HA.out.stored (fun n hn => ?_) ⟨rfl, below_cells hb _ (by omega) _ _ _ _⟩
      rw [HE.out, upto_all _ n hn]
end Go.Proofs.YtfnpepmbklclfaaDoor
