/- Contract of the program's Split, by a map of old classes and bits. -/
import Derived.Test.YtanjpajnciifiaaKiRSpl
import Derived.Test.YtanjpajnciifiaaKiMap
import Derived.Deep.RegionWith
import Derived.Deep.RegionLaw
import Derived.Deep.CutRange
namespace Go.Proofs.Ytanjpajnciifiaa
open Go.RowKit Go.Maps

theorem has_nat (f : Nat → Bool) (k : Nat) (w : World) (h1 : k < 256) :
    Calls Try.prog 24 #[(.agg #[.int .u64 (word (f) 0), .int .u64 (word (f) 1), .int .u64 (word (f) 2), .int .u64 (word (f) 3)]), .int .u8 k] w fun e w' => e = .returned (.bool (f k)) ∧ Below w.heap.size w w' := by
  have := has_calls f k w (by omega) (by omega)
  rwa [Int.toNat_natCast] at this

set_option maxHeartbeats 1000000 in
set_option maxRecDepth 100000 in
theorem split_calls (g : Nat → Nat) (f : Nat → Bool) (w : World) (hg : ∀ j, j < 256 → g j < 256) :
    Calls Try.prog 16 #[ar g, (.agg #[.int .u64 (word (f) 0), .int .u64 (word (f) 1), .int .u64 (word (f) 2), .int .u64 (word (f) 3)])] w fun e w' => e = .returned (ar (clsK (key2 g f))) ∧ Below w.heap.size w w' := by
  have HH := hidden hg
  clear hg
  have hbx := run_box_arr g
  have hal := run_zero_arr
  have hmm := @run_makeMap Try.prog
  go_enter Try.func16, Try.ntmps16
  go_wp2
  go_loopw [12] (fun i wr => ∃ b : Nat, ∃ D : DataW Unit, b ≤ 256 ∧ i = .int .i64 b ∧ MapK D (key2 g f) b ∧ wr.ownsMap Try.prog 45 (plainElem Try.prog 3) (w.heap.size + 3) b D ∧ ArrAt wr w.heap.size 24 (nV g) ∧ SetAt wr (w.heap.size + 1) f ∧ ArrAt wr (w.heap.size + 2) 24 (nV fun _ => 0) ∧ ArrAt wr (w.heap.size + 4) 24 (nV (upG (clsK (key2 g f)) b)) ∧ Below w.heap.size w wr ∧ w.heap.size + 5 ≤ wr.heap.size) (fun i _ => 256 - (intOf i).toNat)
  case atStart =>
    have hmade := World.ownsMap_made (H := Unit) (((w.alloc (.cells (cellsN (nV g)) 24)).alloc (.cells #[.int .u64 (word (f) 0), .int .u64 (word (f) 1), .int .u64 (word (f) 2), .int .u64 (word (f) 3)] 32)).alloc (.cells (cellsN (nV fun _ => 0)) 24)) Try.prog 45 (plainElem Try.prog 3)
    rw [show (((w.alloc (.cells (cellsN (nV g)) 24)).alloc (.cells #[.int .u64 (word (f) 0), .int .u64 (word (f) 1), .int .u64 (word (f) 2), .int .u64 (word (f) 3)] 32)).alloc (.cells (cellsN (nV fun _ => 0)) 24)).heap.size = w.heap.size + 3 by simp] at hmade
    have hs := ((SetAt.newAt (w.alloc (.cells (cellsN (nV g)) 24)) f _ (by simp : _ = w.heap.size + 1)).alloc (.cells (cellsN (nV fun _ => 0)) 24)).alloc (.map #[] 0)
    have hz := ArrAt.newAt (t := 24) (v := nV fun _ => 0) (show ((w.alloc (.cells (cellsN (nV g)) 24)).alloc (.cells #[.int .u64 (word (f) 0), .int .u64 (word (f) 1), .int .u64 (word (f) 2), .int .u64 (word (f) 3)] 32)).heap.size = w.heap.size + 2 by simp)
    have ho := ArrAt.newAt (t := 24) (v := nV fun _ => 0) (show ((((w.alloc (.cells (cellsN (nV g)) 24)).alloc (.cells #[.int .u64 (word (f) 0), .int .u64 (word (f) 1), .int .u64 (word (f) 2), .int .u64 (word (f) 3)] 32)).alloc (.cells (cellsN (nV fun _ => 0)) 24)).alloc (.map #[] 0)).heap.size = w.heap.size + 4 by simp)
    refine ⟨0, .map [], by omega, rfl, MapK.start _, hmade.alloc _, ((((ArrAt.new _ _ _).alloc _).alloc _).alloc _).alloc _, hs.alloc _, (hz.alloc _).alloc _, ho.congr fun j _ => by unfold nV; rw [upG_none], by go_grown, by simp⟩
  case round =>
    obtain ⟨b, D, hk, rfl, hM, hown, h1, h2, h3, h4, h5, h6⟩ := hrel
    have HM := hidden hM
    have HOW := hidden hown
    have H1 := hidden h1
    have H2 := hidden h2
    have H3 := hidden h3
    have H4 := hidden h4
    have H5 := hidden h5
    by_cases hlt : b < 256
    · have ca := h1.cell hlt
      obtain ⟨s0, s1, s2, s3, _, _, _, _⟩ := h2.facts
      clear hM hown h1 h2 h3 h4 h5
      unfold nV at ca
      have hgb := HH.out b hlt
      have wb : IntKind.u8.wrap (b : Int) = b := by rw [IntKind.wrap_u8]; omega
      have y0 : w.heap.size < wr.heap.size := by omega
      have y1 : w.heap.size + 1 < wr.heap.size := by omega
      go_wp2
      go_cut [8] from 13 to 22 (fun v8 wx => ∃ P : Nat, v8 = .pointer (some ⟨P, 0, none⟩) ∧ wx.heap[P]? = some (.cells #[.int .u8 (g b), .bool (f b)] 45 (0, 0)) ∧ wr.heap.size ≤ P ∧ Below wr.heap.size wr wx)
      case first =>
        go_region_law (first
          | (go_simp; refine (has_nat f b wr.drew hlt).mono ?_; rintro e w1 ⟨rfl, hb1⟩; have HB1 := hidden hb1; have k0 := (hb1.cell (p := ⟨w.heap.size, b, none⟩) (by simp <;> omega)); simp at k0; have z1 : wr.heap.size ≤ w1.heap.size := Nat.le_trans (Nat.le_refl _) hb1.size; have y2 : w.heap.size < w1.heap.size := Nat.lt_of_lt_of_le y0 z1; have HBB := hidden (((Below.refl wr.heap.size wr).drew).trans hb1); clear hb1; dsimp only)
          | (go_simp; refine (has_nat f b ((wr.alloc (.cells #[.int .u8 0, .bool false] 45)).drew) hlt).mono ?_; rintro e w1 ⟨rfl, hb1⟩; have HB1 := hidden hb1; have hrow := (hb1.block wr.heap.size (by simp)).trans (heap_alloc_new wr (.cells #[.int .u8 0, .bool false] 45)); have q0 := cell_of_row w1 wr.heap.size 0 _ _ _ hrow; have q1 := cell_of_row w1 wr.heap.size 1 _ _ _ hrow; have q2 := frozen_of_row w1 wr.heap.size 0 _ _ hrow; have q3 := frozen_of_row w1 wr.heap.size 1 _ _ hrow; simp at q0 q1; have k0 := (hb1.cell (p := ⟨w.heap.size, b, none⟩) (by simp <;> omega)); simp at k0; have z1 : wr.heap.size ≤ w1.heap.size := Nat.le_trans (by simp) hb1.size; have y2 : w.heap.size < w1.heap.size := Nat.lt_of_lt_of_le y0 z1; have HBB := hidden (below_then (((Below.refl wr.heap.size wr).alloc (Nat.le_refl _) (.cells #[.int .u8 0, .bool false] 45)).drew) (by simp) hb1); have HR := hidden hrow; clear hb1 hrow; dsimp only))
        all_goals (try go_wp2_with fail)
        all_goals go_meet
        all_goals first
          | exact ⟨_, rfl, heap_alloc_new _ _, z1, HBB.out.alloc z1 _⟩
          | exact ⟨_, rfl, heap_setCell_same _ _ 1 _ _ _ (heap_setCell_same _ _ 0 _ _ _ HR.out), Nat.le_refl _, (HBB.out.setCell (Nat.le_refl _) _).setCell (Nat.le_refl _) _⟩
      case rest =>
        obtain ⟨P, rfl, hrow, hP, hbc⟩ := hcut
        have G1 := hidden (H1.out.below hbc)
        have G2 := hidden (H2.out.below hbc)
        have G3 := hidden (H3.out.below hbc)
        have G4 := hidden (H4.out.below hbc)
        have G5 := hidden (below_then H5.out (by omega) hbc)
        have HOW2 := hidden (HOW.out.kept (row := none) ⟨hbc.os, hbc.tape, hbc.output, hbc.size, fun k hk _ => hbc.block k hk⟩ (by simp))
        have hkey := keyOf_part (key2 g f b) hgb
        unfold key2 at hkey
        have c0 := cell_of_row wc P 0 _ _ _ hrow
        have c1 := cell_of_row wc P 1 _ _ _ hrow
        simp at c0 c1
        have g6 := hbc.size
        have hpl : P < wc.heap.size := cell_lt c0
        clear hbc hrow H1 H2 H3 H4 H5 HOW s0 s1 s2 s3 ca
        have hcn := cnt_le (key2 g f) b
        have hcl := cls_le (key2 g f) b
        by_cases hf : fstK (key2 g f) b < b
        · have hkn := HM.out.known hgb hf
          have hhas : Maps.has D (kl (g b, f b)) = true := hkn.1
          have HAT := hidden (show D.atKey (kl (g b, f b)) (.lit (.int .i64 0)) = .lit (.int .i64 (clsK (key2 g f) b)) from hkn.2)
          have HM2 := hidden (HM.out.old hf)
          have hw : IntKind.u8.wrap (clsK (key2 g f) b : Int) = clsK (key2 g f) b := by rw [IntKind.wrap_u8]; omega
          have hfz := G4.out.frozen b
          have hco := G4.out.cell hlt
          have HNW := hidden (upG_put (clsK (key2 g f)) b)
          clear hkn hf
          generalize clsK (key2 g f) b = x at *
          go_wp2_with (at_lookup; refine wpList_lookup_own_ok_int _ rfl _ _ 43 rfl 45 3 .i64 keyedPart Try.underlying43 Try.underlying3 (zeroInt _) (w.heap.size + 3) b D rfl HOW2.out _ _ rfl hkey ?_; intro c hat hwc; obtain rfl : c = (x : Int) := (by have h1 := hat.symm.trans HAT.out; simpa using h1))
          refine ⟨⟨b + 1, D, by omega, by go_num, HM2.out, (HOW2.out.setCell (by dsimp only; omega) _).mono (Nat.le_succ _), G1.out.other (by omega) _, G2.out.other (by omega) _, G3.out.other (by omega) _, (G4.out.stored b _).congr fun j _ => ?_, G5.out.setCell (by dsimp only; omega) _, Nat.le_trans (by omega) ((Below.refl 0 wc).setCell (Nat.zero_le _) _).size⟩, by simp [intOf]; omega⟩
          rw [putN_nV]
          unfold nV
          rw [HNW.out]
        · obtain hf2 : fstK (key2 g f) b = b := by have := fst_le (key2 g f) b; omega
          have hhas : Maps.has D (kl (g b, f b)) = false := HM.out.unknown hgb hf2
          have HSZ := hidden HM.out.size
          have HM2 := hidden (HM.out.fresh (HOW2.out.tidy keyedPart) (fun j hj => HH.out j (by omega)) hf2)
          have HX := hidden (cls_new (key2 g f) hf2)
          have hw : IntKind.u8.wrap (cntK (key2 g f) b : Int) = cntK (key2 g f) b := by rw [IntKind.wrap_u8]; omega
          have hwf : (Lit.int .i64 (cntK (key2 g f) b : Int)).wf = true := WalkArith.wf_i64 (by omega)
          have HNW := hidden (upG_put (clsK (key2 g f)) b)
          clear hf hf2
          go_wp2_with (first
            | (at_lookup; refine wpList_lookup_own_ok_int _ rfl _ _ 43 rfl 45 3 .i64 keyedPart Try.underlying43 Try.underlying3 (zeroInt _) (w.heap.size + 3) b D rfl HOW2.out _ _ rfl hkey ?_; intro c hat hwc; clear hat hwc)
            | (at_len; refine wpList_len_own _ rfl _ 43 rfl 45 3 Try.underlying43 _ (w.heap.size + 3) b D rfl HOW2.out ?_; rw [HSZ.out])
            | (at_mapUpdate; refine wpList_mapUpdate_own _ rfl _ _ _ 43 rfl 45 3 keyedPart Try.underlying43 (plainElem (H := Unit) Try.prog 3) (w.heap.size + 3) b D rfl HOW2.out (by unfold maxLen; omega) _ _ _ rfl rfl hkey _ [] (plainElem_int Try.underlying3 hwf) ?_; intro w1 hown1 hgrow1; have HG1 := hidden hgrow1; have HO1 := hidden hown1; have f4 := (hgrow1.block (w.heap.size + 4) G4.out.lt (by simp)).trans G4.out; have hfz := frozen_of_row w1 (w.heap.size + 4) b _ _ f4; have hco := (cell_of_row w1 (w.heap.size + 4) b _ _ _ f4).trans (cellsN_get _ hlt); clear f4 hown1 hgrow1))
          have ga : ∀ {B : Nat} {u : Nat → Value}, ArrAt wc B 24 u → B ≠ w.heap.size + 3 → ArrAt w1 B 24 u := fun h hne => (HG1.out.block _ h.lt (fun e => hne (Option.some.inj e))).trans h
          have gs : SetAt w1 (w.heap.size + 1) f := (HG1.out.block _ G2.out.lt (by simp)).trans G2.out
          have gb : Below w.heap.size w w1 := G5.out.grown HG1.out (by omega) (fun j hj => by cases hj; omega)
          have gz := HG1.out.size
          refine ⟨⟨b + 1, _, by omega, by go_num, HM2.out, HO1.out.setCell (by dsimp only; omega) _, (ga G1.out (by omega)).other (by omega) _, gs.other (by omega) _, (ga G3.out (by omega)).other (by omega) _, ((ga G4.out (by omega)).stored b _).congr fun j _ => ?_, gb.setCell (by dsimp only; omega) _, Nat.le_trans (by omega) ((Below.refl 0 w1).setCell (Nat.zero_le _) _).size⟩, by simp [intOf]; omega⟩
          rw [putN_nV, ← HX.out]
          unfold nV
          rw [HNW.out]
    · obtain rfl : b = 256 := by omega
      clear hM hown h1 h2 h3 h4 h5
      go_wp2_with (first
        | (refine load_arr rfl (x := .tmp 6) rfl (B := w.heap.size + 4) rfl H4.out ?_)
        | (refine store_arr rfl (x := .tmp 4) (y := .tmp 41) rfl (B := w.heap.size + 2) (upG (clsK (key2 g f)) 256) rfl rfl H3.out ?_; intro w3 hw3 hs3))
      have HE : Hid (ArrAt w3 (w.heap.size + 2) 24 (nV (upG (clsK (key2 g f)) 256)) ∧ Below w.heap.size w w3) := by
        have e := hw3.out
        subst e
        exact ⟨H3.out.storedRow _, below_setRow H5.out (by omega) _⟩
      exact ret_arr Try.results16 rfl rfl HE.out.1 (fun n hn => by unfold nV; rw [upG_all _ hn]) ⟨rfl, HE.out.2⟩
end Go.Proofs.Ytanjpajnciifiaa
