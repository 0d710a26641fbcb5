/- Contract of the reference's Split. -/
import Derived.Test.YtanjpajnciifiaaKiArr
import Derived.Test.YtanjpajnciifiaaKiMath
import Derived.Test.YtanjpajnciifiaaSetTwo
import Derived.Test.YtanjpajnciifiaaLater
namespace Go.Proofs.Ytanjpajnciifiaa
open Go.RowKit

/-- the class of old and whether a set has it -/
def key2 (g : Nat → Nat) (f : Nat → Bool) (b : Nat) : Nat × Bool := (g b, f b)

set_option maxHeartbeats 1000000 in
set_option maxRecDepth 100000 in
theorem rsplit_calls (g : Nat → Nat) (f : Nat → Bool) (w : World) (hg : ∀ j, j < 256 → g j < 256) :
    Calls Try.prog 17 #[ar g, (.agg #[.int .u64 (word (f) 0), .int .u64 (word (f) 1), .int .u64 (word (f) 2), .int .u64 (word (f) 3)])] w fun e w' => e = .returned (ar (clsK (key2 g f))) ∧ Below w.heap.size w w' := by
  have HH := hidden hg
  clear hg
  have hbx := run_box_arr g
  have hal := run_zero_arr
  have hbu := run_build_arr
  have HO := hidden (show ArrAt ((((w.alloc (.cells (cellsN (nV g)) 24)).alloc (.cells #[.int .u64 (word (f) 0), .int .u64 (word (f) 1), .int .u64 (word (f) 2), .int .u64 (word (f) 3)] 32)).alloc (.cells (cellsN (nV fun _ => 0)) 24)).alloc (.cells (cellsN (nV fun _ => 0)) 24)) (w.heap.size + 3) 24 (nV fun _ => 0) from ArrAt.newAt (by simp))
  go_enter Try.func17, Try.ntmps17
  go_wp2_with (refine store_arr rfl (x := .tmp 5) (y := .tmp 9) rfl (B := w.heap.size + 3) (fun _ => 0) rfl rfl HO.out ?_; intro w2 hw2 hs2)
  have z0 : w2.heap.size = w.heap.size + 4 := by rw [hs2]; simp
  have HW : Hid (ArrAt w2 w.heap.size 24 (nV g) ∧ SetAt w2 (w.heap.size + 1) f ∧ ArrAt w2 (w.heap.size + 2) 24 (nV fun _ => 0) ∧ ArrAt w2 (w.heap.size + 3) 24 (nV fun _ => 0) ∧ Below w.heap.size w w2) := by
    have e := hw2.out
    subst e
    exact ⟨((((ArrAt.new _ _ _).alloc _).alloc _).alloc _).otherRow (by omega) _, by
        have h1 := ((SetAt.newAt (w.alloc (.cells (cellsN (nV g)) 24)) f _ (by simp : _ = w.heap.size + 1)).alloc (.cells (cellsN (nV fun _ => 0)) 24)).alloc (.cells (cellsN (nV fun _ => 0)) 24)
        exact (setRow_other _ _ _ _ (by omega)).trans h1,
      ((ArrAt.newAt (by simp)).alloc _).otherRow (by omega) _, HO.out.storedRow _, below_setRow (by go_grown) (by omega) _⟩
  clear hw2 hs2 HO
  go_wp2
  go_loopw [6, 7] (fun x i wr => ∃ b : Nat, b ≤ 256 ∧ x = .int .i64 (cntK (key2 g f) b) ∧ i = .int .i64 b ∧ ArrAt wr w.heap.size 24 (nV g) ∧ SetAt wr (w.heap.size + 1) f ∧ ArrAt wr (w.heap.size + 2) 24 (nV fun _ => 0) ∧ ArrAt wr (w.heap.size + 3) 24 (nV (upG (clsK (key2 g f)) b)) ∧ Below w.heap.size w wr ∧ w.heap.size + 4 ≤ wr.heap.size) (fun _ i _ => 256 - (intOf i).toNat)
  case atStart =>
    obtain ⟨h1, h2, h3, h4, h5⟩ := HW.out
    exact ⟨0, by omega, rfl, rfl, h1, h2, h3, h4.congr fun j _ => by unfold nV; rw [upG_none], h5, by omega⟩
  case round =>
    obtain ⟨b, hk, rfl, rfl, h1, h2, h3, h4, h5, h6⟩ := hrel
    have H1 := hidden h1
    have H2 := hidden h2
    have H3 := hidden h3
    have H4 := hidden h4
    have H5 := hidden h5
    by_cases hlt : b < 256
    · clear h1 h2 h3 h4 h5
      have hcn := cnt_le (key2 g f) b
      have hcs := cnt_step (key2 g f) b
      go_wp2
      go_loopw [8] (fun i wr => ∃ a : Nat, a ≤ fstK (key2 g f) b ∧ i = .int .i64 a ∧ ArrAt wr w.heap.size 24 (nV g) ∧ SetAt wr (w.heap.size + 1) f ∧ ArrAt wr (w.heap.size + 2) 24 (nV fun _ => 0) ∧ ArrAt wr (w.heap.size + 3) 24 (nV (upG (clsK (key2 g f)) b)) ∧ Below w.heap.size w wr ∧ w.heap.size + 4 ≤ wr.heap.size) (fun i _ => fstK (key2 g f) b - (intOf i).toNat)
      case atStart => exact ⟨0, by omega, rfl, H1.out, H2.out, H3.out, H4.out, H5.out, h6⟩
      case round =>
        clear H1 H2 H3 H4 H5
        obtain ⟨a, ha, rfl, h1, h2, h3, h4, h5, h6⟩ := hrel
        have H1 := hidden h1
        have H2 := hidden h2
        have H3 := hidden h3
        have H4 := hidden h4
        have H5 := hidden h5
        have hfl := fst_le (key2 g f) b
        have hab : a < 256 := by omega
        have ca := fun (p : Later wr) => Later.cell (h1.cell hab) h1.lt p
        have cb := fun (p : Later wr) => Later.cell (h1.cell hlt) h1.lt p
        obtain ⟨s0, s1, s2, s3, _, _, _, _⟩ := h2.facts
        have d0 := fun (p : Later wr) => Later.cell s0 h2.lt p
        have d1 := fun (p : Later wr) => Later.cell s1 h2.lt p
        have d2 := fun (p : Later wr) => Later.cell s2 h2.lt p
        have d3 := fun (p : Later wr) => Later.cell s3 h2.lt p
        clear h1 h2 h3 h4 h5 s0 s1 s2 s3
        unfold nV at ca cb
        have wa : IntKind.u8.wrap (a : Int) = a := by rw [IntKind.wrap_u8]; omega
        have wb : IntKind.u8.wrap (b : Int) = b := by rw [IntKind.wrap_u8]; omega
        by_cases hlf : a < fstK (key2 g f) b
        · have hk2 := fst_min (key2 g f) hlf
          by_cases e1 : g a = g b
          · have e2 : f a ≠ f b := fun e => hk2 (by unfold key2; rw [e1, e])
            have q1 : ((g a : Int) == (g b : Int)) = true := by simp [e1]
            have q2 : (f a == f b) = false := by simpa using e2
            rw [e1] at ca
            clear e1 e2 hk2
            go_wp2
            refine wp_region_later (by kernel_rfl) (by kernel_rfl) ?_
            repeat (go_big_quiet_step ((go_at_call 18; first | (with_reducible exact Later.calls (rhas_nat f a _ hab)) | (with_reducible exact Later.calls (rhas_nat f b _ hlt)))))
            refine wpQuiet_nil ?_
            rintro _ ⟨⟨_, hb5⟩, rfl⟩
            rename_i w5
            have G1 := hidden (H1.out.below hb5)
            have G2 := hidden (H2.out.below hb5)
            have G3 := hidden (H3.out.below hb5)
            have G4 := hidden (H4.out.below hb5)
            have G5 := hidden (below_then H5.out (by omega) hb5)
            have g6 := hb5.size
            clear hb5 H1 H2 H3 H4 H5 ca cb d0 d1 d2 d3
            go_wp2
            go_roundw
            case rel => exact ⟨a + 1, by omega, by go_num, G1.out, G2.out, G3.out, G4.out, G5.out, by omega⟩
            case measure => simp [intOf]; omega
          · have q1 : ((g a : Int) == (g b : Int)) = false := by simp; omega
            have q3 : ((g a : Int) != (g b : Int)) = true := by simp; omega
            clear e1 hk2
            go_wp2
            refine wp_region_later (by kernel_rfl) (by kernel_rfl) ?_
            repeat (go_big_quiet_step ((go_at_call 18; first | (with_reducible exact Later.calls (rhas_nat f a _ hab)) | (with_reducible exact Later.calls (rhas_nat f b _ hlt)))))
            refine wpQuiet_nil ?_
            rintro _ ⟨⟨_, hb5⟩, rfl⟩
            rename_i w5
            have G1 := hidden (H1.out.below hb5)
            have G2 := hidden (H2.out.below hb5)
            have G3 := hidden (H3.out.below hb5)
            have G4 := hidden (H4.out.below hb5)
            have G5 := hidden (below_then H5.out (by omega) hb5)
            have g6 := hb5.size
            clear hb5 H1 H2 H3 H4 H5 ca cb d0 d1 d2 d3
            go_wp2
            go_roundw
            case rel => exact ⟨a + 1, by omega, by go_num, G1.out, G2.out, G3.out, G4.out, G5.out, by omega⟩
            case measure => simp [intOf]; omega
        · have hk2 := fst_key (key2 g f) b
          obtain rfl : a = fstK (key2 g f) b := by omega
          have e1 : g (fstK (key2 g f) b) = g b := (Prod.mk.inj hk2).1
          have e2 : f (fstK (key2 g f) b) = f b := (Prod.mk.inj hk2).2
          have HFF := hidden (cls_first (key2 g f) b)
          have HOLD := hidden (cls_old (key2 g f) (b := b))
          have HNEW := hidden (cls_new (key2 g f) (b := b))
          have HCO := hidden (cnt_old (key2 g f) (n := b))
          have HCN := hidden (cnt_new (key2 g f) (n := b))
          have q2 : (f b == f b) = true := by simp
          have q1 : ((g b : Int) == (g b : Int)) = true := by simp
          have hc2 : cntK (key2 g f) b ≤ 255 := by omega
          rw [e1] at ca
          have HE2 := hidden e2
          clear e1 e2 hk2 hlf
          generalize fstK (key2 g f) b = a at *
          have q2 : (f a == f b) = true := by rw [HE2.out]; simp
          by_cases hlab : a < b
          · go_wp2
            refine wp_region_later (by kernel_rfl) (by kernel_rfl) ?_
            repeat (go_big_quiet_step ((go_at_call 18; first | (with_reducible exact Later.calls (rhas_nat f a _ hab)) | (with_reducible exact Later.calls (rhas_nat f b _ hlt)))))
            refine wpQuiet_nil ?_
            rintro _ ⟨⟨_, hb5⟩, rfl⟩
            rename_i w5
            have G1 := hidden (H1.out.below hb5)
            have G2 := hidden (H2.out.below hb5)
            have G3 := hidden (H3.out.below hb5)
            have G4 := hidden (H4.out.below hb5)
            have G5 := hidden (below_then H5.out (by omega) hb5)
            have g6 := hb5.size
            clear hb5 H1 H2 H3 H4 H5 ca cb d0 d1 d2 d3
            have hcl := (G4.out.cell hab)
            unfold nV at hcl
            rw [upG_all _ hlab, HFF.out] at hcl
            have hfz := G4.out.frozen b
            have hco := G4.out.cell hlt
            go_wp2
            refine ⟨⟨b + 1, by omega, by rw [HCO.out (by omega)], by go_num, G1.out.other (by omega) _, G2.out.other (by omega) _, G3.out.other (by omega) _, (G4.out.stored b _).congr fun j _ => ?_, G5.out.setCell (by dsimp only; omega) _, Nat.le_trans (by omega) ((Below.refl 0 w5).setCell (Nat.zero_le _) _).size⟩, by simp [intOf]; omega⟩
            rw [putN_nV]
            unfold nV
            rw [upG_put]
          · obtain rfl : a = b := by omega
            have wn : IntKind.u8.wrap (cntK (key2 g f) a : Int) = cntK (key2 g f) a := by rw [IntKind.wrap_u8]; omega
            go_wp2
            refine wp_region_later (by kernel_rfl) (by kernel_rfl) ?_
            repeat (go_big_quiet_step ((go_at_call 18; first | (with_reducible exact Later.calls (rhas_nat f a _ hab)) | (with_reducible exact Later.calls (rhas_nat f b _ hlt)))))
            refine wpQuiet_nil ?_
            rintro _ ⟨⟨_, hb5⟩, rfl⟩
            rename_i w5
            have G1 := hidden (H1.out.below hb5)
            have G2 := hidden (H2.out.below hb5)
            have G3 := hidden (H3.out.below hb5)
            have G4 := hidden (H4.out.below hb5)
            have G5 := hidden (below_then H5.out (by omega) hb5)
            have g6 := hb5.size
            clear hb5 H1 H2 H3 H4 H5 ca cb d0 d1 d2 d3
            have hfz := G4.out.frozen a
            have hco := G4.out.cell hlt
            go_wp2
            refine ⟨⟨a + 1, by omega, by rw [HCN.out (by trivial)]; simp, by go_num, G1.out.other (by omega) _, G2.out.other (by omega) _, G3.out.other (by omega) _, (G4.out.stored a _).congr fun j _ => ?_, G5.out.setCell (by dsimp only; omega) _, Nat.le_trans (by omega) ((Below.refl 0 w5).setCell (Nat.zero_le _) _).size⟩, by simp [intOf]; omega⟩
            rw [putN_nV, ← HNEW.out (by trivial)]
            unfold nV
            rw [upG_put]
    · obtain rfl : b = 256 := by omega
      clear h1 h2 h3 h4 h5
      go_wp2_with (first
        | (refine load_arr rfl (x := .tmp 5) rfl (B := w.heap.size + 3) rfl H4.out ?_)
        | (refine store_arr rfl (x := .tmp 4) (y := .tmp 48) rfl (B := w.heap.size + 2) (upG (clsK (key2 g f)) 256) rfl rfl H3.out ?_; intro w3 hw3 hs3))
      have HE : Hid (ArrAt w3 (w.heap.size + 2) 24 (nV (upG (clsK (key2 g f)) 256)) ∧ Below w.heap.size w w3) := by
        have e := hw3.out
        subst e
        exact ⟨H3.out.storedRow _, below_setRow H5.out (by omega) _⟩
      exact ret_arr Try.results17 rfl rfl HE.out.1 (fun n hn => by unfold nV; rw [upG_all _ hn]) ⟨rfl, HE.out.2⟩
end Go.Proofs.Ytanjpajnciifiaa
