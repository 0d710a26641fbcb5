/- KiMap, KiSpl, KiDiv, KiOf, put together. -/
import Derived.Test.YtmpjjnjggihojaaGreatDoorDf01
import Derived.Maps.OwnSet
import Derived.DeepKeys4
import Derived.Test.YtmpjjnjggihojaaGreatDoorDf21
import Derived.Deep.RegionWith
import Derived.Deep.RegionLaw
import Derived.Deep.CutRange
import Derived.Test.YtmpjjnjggihojaaGreatDoorDf03
import Derived.Test.YtmpjjnjggihojaaGreatDoorDf13
import Derived.Test.YtmpjjnjggihojaaGreatDoorDf16
/- The map of the program's Split: keyed by an old class and whether a set has it; what it holds behind b rounds. -/
namespace Go.Proofs.YtmpjjnjggihojaaGreatDoor
open Go.RowKit Go.Maps

theorem widePart : (match Tryz.prog.underlying 127 with | some (.array _ _) | some (.struct _) => true | _ => false) = true := by rw [Tryz.underlying127]
theorem rowPart : (127 : TypeId) < Tryz.prog.types.size := of_decide_eq_true (by kernel_rfl)
set_option maxRecDepth 100000 in
theorem keyedPart : Keyed Tryz.prog 127 := Keyed.of_law (deep_law_laid laidOut (m := 2) (by omega) rowPart (by kernel_rfl) widePart)
theorem zeroInt (w : World) : (zeroValue 3).run Tryz.prog w = .ok (.int .i64 0) w := by kernel_rfl
/-- a key, as it is read -/
def kl (p : Nat × Bool) : Lit := .string (keyBytes [.int .u8 (p.1 : Int), .bool p.2])
set_option maxRecDepth 100000 in
theorem keyOf_part (p : Nat × Bool) (h : p.1 < 256) : keyOf Tryz.prog 127 (.agg #[.int .u8 (p.1 : Int), .bool p.2]) = some (kl p) := by
  have hw : (Lit.int .u8 (p.1 : Int)).wf = true := by simp [Lit.wf, IntKind.min, IntKind.max, IntKind.signed, IntKind.bits]; omega
  have hk : Tryz.prog.keyType 127 = true := by kernel_rfl
  have hc : Tryz.prog.cellsOf 127 = 2 := by kernel_rfl
  have c5 : Tryz.prog.cellsOf 5 = 1 := by kernel_rfl
  have c4 : Tryz.prog.cellsOf 4 = 1 := by kernel_rfl
  obtain ⟨m, hm⟩ : ∃ m, Tryz.prog.types.size = m + 1 := ⟨Tryz.prog.types.size - 1, by have := rowPart; have h2 : (0 : Nat) ≤ 127 := Nat.zero_le _; exact (Nat.succ_pred_eq_of_pos (Nat.lt_of_le_of_lt h2 this)).symm⟩
  unfold keyOf kl
  simp only [Tryz.underlying127]
  rw [if_pos (by simp [hk, Value.formed, Tryz.underlying127, hc]), hm]
  unfold Program.keyLits
  simp only [Tryz.underlying127, Value.cells]
  rw [if_pos (by simp [hc])]
  simp [Program.keyLits, c5, c4, hw, Tryz.underlying5, Tryz.underlying4]
theorem kl_inj {p q : Nat × Bool} (hp : p.1 < 256) (hq : q.1 < 256) (h : kl p = kl q) : p = q := by
  have := keyedPart.inj (keyOf_part p hp) (h ▸ keyOf_part q hq)
  simp at this
  exact Prod.ext (by omega) this.2
theorem kl_key (p : Nat × Bool) : WideAt.IsKeyLit (kl p) := trivial

/-- the map behind b rounds -/
structure MapK (D : DataW Unit) (k : Nat → Nat × Bool) (b : Nat) : Prop where
  has : ∀ p : Nat × Bool, p.1 < 256 → (Maps.has D (kl p) = true ↔ ∃ j, j < b ∧ k j = p)
  look : ∀ j, j < b → D.atKey (kl (k j)) (.lit (.int .i64 0)) = .lit (.int .i64 (clsK k j))
  size : Maps.size D = cntK k b
theorem MapK.start (k : Nat → Nat × Bool) : MapK (.map []) k 0 :=
  ⟨fun p _ => ⟨fun h => by simp [Maps.has_eq] at h, fun ⟨j, h, _⟩ => by omega⟩, fun j h => by omega, rfl⟩
theorem MapK.known {D : DataW Unit} {k : Nat → Nat × Bool} {b : Nat} (h : MapK D k b) (hk : (k b).1 < 256) (hf : fstK k b < b) : Maps.has D (kl (k b)) = true ∧ D.atKey (kl (k b)) (.lit (.int .i64 0)) = .lit (.int .i64 (clsK k b)) := by
  refine ⟨(h.has _ hk).2 ⟨_, hf, fst_key k b⟩, ?_⟩
  have := h.look _ hf
  rwa [fst_key k, cls_first] at this
theorem MapK.unknown {D : DataW Unit} {k : Nat → Nat × Bool} {b : Nat} (h : MapK D k b) (hk : (k b).1 < 256) (hf : fstK k b = b) : Maps.has D (kl (k b)) = false := by
  rw [Bool.eq_false_iff]
  intro e
  obtain ⟨j, hj, hj2⟩ := (h.has _ hk).1 e
  exact fst_min k (by rw [hf]; exact hj) hj2
theorem MapK.old {D : DataW Unit} {k : Nat → Nat × Bool} {b : Nat} (h : MapK D k b) (hf : fstK k b < b) : MapK D k (b + 1) :=
  ⟨fun p hp => (h.has p hp).trans ⟨fun ⟨j, h1, h2⟩ => ⟨j, by omega, h2⟩, fun ⟨j, h1, h2⟩ => by
      by_cases e : j = b
      · subst e; exact ⟨_, hf, (fst_key k j).trans h2⟩
      · exact ⟨j, by omega, h2⟩⟩,
    fun j hj => by
      by_cases e : j = b
      · subst e
        have := h.look _ hf
        rwa [fst_key k, cls_first] at this
      · exact h.look j (by omega),
    h.size.trans (cnt_old k (by omega)).symm⟩
theorem MapK.fresh {D : DataW Unit} {k : Nat → Nat × Bool} {b : Nat} (h : MapK D k b) (ht : Maps.Tidy D) (hk : ∀ j, j ≤ b → (k j).1 < 256) (hf : fstK k b = b) : MapK (D.put (kl (k b)) (.lit (.int .i64 (cntK k b)))) k (b + 1) := by
  have hu := h.unknown (hk b (Nat.le_refl _)) hf
  refine ⟨fun p hp => ?_, fun j hj => ?_, ?_⟩
  · by_cases e : p = k b
    · subst e
      rw [Maps.has_put_same ht.isMap (kl_key _)]
      exact ⟨fun _ => ⟨b, by omega, rfl⟩, fun _ => rfl⟩
    · rw [Maps.has_put_other (fun h2 => e (kl_inj hp (hk b (Nat.le_refl _)) h2))]
      refine (h.has p hp).trans ⟨fun ⟨j, h1, h2⟩ => ⟨j, by omega, h2⟩, fun ⟨j, h1, h2⟩ => ?_⟩
      by_cases e2 : j = b
      · subst e2; exact absurd h2.symm e
      · exact ⟨j, by omega, h2⟩
  · by_cases e : j = b
    · subst e
      rw [Maps.atKey_put_same ht.isMap (kl_key _), cls_new k hf]
    · have hne : k j ≠ k b := fst_min k (by rw [hf]; omega)
      rw [Maps.atKey_put_other (fun h2 => hne (kl_inj (hk j (by omega)) (hk b (Nat.le_refl _)) h2))]
      exact h.look j (by omega)
  · rw [Maps.size_put ht, hu, cnt_new k hf, h.size]
    rfl
end Go.Proofs.YtmpjjnjggihojaaGreatDoor

/- Contract of the program's Split, by a map of old classes and bits. -/
namespace Go.Proofs.YtmpjjnjggihojaaGreatDoor
open Go.RowKit Go.Maps

set_option maxHeartbeats 1000000 in
set_option maxRecDepth 100000 in
theorem split_calls (g : Nat → Nat) (f : Nat → Bool) (w : World) (hg : ∀ j, j < 256 → g j < 256) :
    Calls Tryz.prog 69 #[ar g, (.agg #[.int .u64 (word (f) 0), .int .u64 (word (f) 1), .int .u64 (word (f) 2), .int .u64 (word (f) 3)])] w fun e w' => e = .returned (ar (clsK (key2 g f))) ∧ Below w.heap.size w w' := by
  have HH := hidden hg
  clear hg
  have hbx := run_box_arr g
  have hal := run_zero_arr
  have hmm := @run_makeMap Tryz.prog
  go_enter Tryz.func69, Tryz.ntmps69
  go_wp2
  go_loopw [12] (fun i wr => ∃ b : Nat, ∃ D : DataW Unit, b ≤ 256 ∧ i = .int .i64 b ∧ MapK D (key2 g f) b ∧ wr.ownsMap Tryz.prog 127 (plainElem Tryz.prog 3) (w.heap.size + 3) b D ∧ ArrAt wr w.heap.size 30 (nV g) ∧ SetAt wr (w.heap.size + 1) f ∧ ArrAt wr (w.heap.size + 2) 30 (nV fun _ => 0) ∧ ArrAt wr (w.heap.size + 4) 30 (nV (upG (clsK (key2 g f)) b)) ∧ Below w.heap.size w wr ∧ w.heap.size + 5 ≤ wr.heap.size) (fun i _ => 256 - (intOf i).toNat)
  case atStart =>
    have hmade := World.ownsMap_made (H := Unit) (((w.alloc (.cells (cellsN (nV g)) 30)).alloc (.cells #[.int .u64 (word (f) 0), .int .u64 (word (f) 1), .int .u64 (word (f) 2), .int .u64 (word (f) 3)] 74)).alloc (.cells (cellsN (nV fun _ => 0)) 30)) Tryz.prog 127 (plainElem Tryz.prog 3)
    rw [show (((w.alloc (.cells (cellsN (nV g)) 30)).alloc (.cells #[.int .u64 (word (f) 0), .int .u64 (word (f) 1), .int .u64 (word (f) 2), .int .u64 (word (f) 3)] 74)).alloc (.cells (cellsN (nV fun _ => 0)) 30)).heap.size = w.heap.size + 3 by simp] at hmade
    have hs := ((SetAt.newAt (w.alloc (.cells (cellsN (nV g)) 30)) f _ (by simp : _ = w.heap.size + 1)).alloc (.cells (cellsN (nV fun _ => 0)) 30)).alloc (.map #[] 0)
    have hz := ArrAt.newAt (t := 30) (v := nV fun _ => 0) (show ((w.alloc (.cells (cellsN (nV g)) 30)).alloc (.cells #[.int .u64 (word (f) 0), .int .u64 (word (f) 1), .int .u64 (word (f) 2), .int .u64 (word (f) 3)] 74)).heap.size = w.heap.size + 2 by simp)
    have ho := ArrAt.newAt (t := 30) (v := nV fun _ => 0) (show ((((w.alloc (.cells (cellsN (nV g)) 30)).alloc (.cells #[.int .u64 (word (f) 0), .int .u64 (word (f) 1), .int .u64 (word (f) 2), .int .u64 (word (f) 3)] 74)).alloc (.cells (cellsN (nV fun _ => 0)) 30)).alloc (.map #[] 0)).heap.size = w.heap.size + 4 by simp)
    refine ⟨0, .map [], by omega, rfl, MapK.start _, hmade.alloc _, ((((ArrAt.new _ _ _).alloc _).alloc _).alloc _).alloc _, hs.alloc _, (hz.alloc _).alloc _, ho.congr fun j _ => by unfold nV; rw [upG_none], by go_grown, by simp⟩
  case round =>
    obtain ⟨b, D, hk, rfl, hM, hown, h1, h2, h3, h4, h5, h6⟩ := hrel
    have HM := hidden hM
    have HOW := hidden hown
    have H1 := hidden h1
    have H2 := hidden h2
    have H3 := hidden h3
    have H4 := hidden h4
    have H5 := hidden h5
    by_cases hlt : b < 256
    · have ca := h1.cell hlt
      obtain ⟨s0, s1, s2, s3, _, _, _, _⟩ := h2.facts
      clear hM hown h1 h2 h3 h4 h5
      unfold nV at ca
      have hgb := HH.out b hlt
      have wb : IntKind.u8.wrap (b : Int) = b := by rw [IntKind.wrap_u8]; omega
      have y0 : w.heap.size < wr.heap.size := by omega
      have y1 : w.heap.size + 1 < wr.heap.size := by omega
      go_wp2
      go_cut [8] from 13 to 22 (fun v8 wx => ∃ P : Nat, v8 = .pointer (some ⟨P, 0, none⟩) ∧ wx.heap[P]? = some (.cells #[.int .u8 (g b), .bool (f b)] 127 (0, 0)) ∧ wr.heap.size ≤ P ∧ Below wr.heap.size wr wx)
      case first =>
        go_region_law (first
          | (go_simp; refine (bhas_nat f b wr.drew hlt).mono ?_; rintro e w1 ⟨rfl, hb1⟩; have HB1 := hidden hb1; have k0 := (hb1.cell (p := ⟨w.heap.size, b, none⟩) (by simp <;> omega)); simp at k0; have z1 : wr.heap.size ≤ w1.heap.size := Nat.le_trans (Nat.le_refl _) hb1.size; have y2 : w.heap.size < w1.heap.size := Nat.lt_of_lt_of_le y0 z1; have HBB := hidden (((Below.refl wr.heap.size wr).drew).trans hb1); clear hb1; dsimp only)
          | (go_simp; refine (bhas_nat f b ((wr.alloc (.cells #[.int .u8 0, .bool false] 127)).drew) hlt).mono ?_; rintro e w1 ⟨rfl, hb1⟩; have HB1 := hidden hb1; have hrow := (hb1.block wr.heap.size (by simp)).trans (heap_alloc_new wr (.cells #[.int .u8 0, .bool false] 127)); have q0 := cell_of_row w1 wr.heap.size 0 _ _ _ hrow; have q1 := cell_of_row w1 wr.heap.size 1 _ _ _ hrow; have q2 := frozen_of_row w1 wr.heap.size 0 _ _ hrow; have q3 := frozen_of_row w1 wr.heap.size 1 _ _ hrow; simp at q0 q1; have k0 := (hb1.cell (p := ⟨w.heap.size, b, none⟩) (by simp <;> omega)); simp at k0; have z1 : wr.heap.size ≤ w1.heap.size := Nat.le_trans (by simp) hb1.size; have y2 : w.heap.size < w1.heap.size := Nat.lt_of_lt_of_le y0 z1; have HBB := hidden (below_then (((Below.refl wr.heap.size wr).alloc (Nat.le_refl _) (.cells #[.int .u8 0, .bool false] 127)).drew) (by simp) hb1); have HR := hidden hrow; clear hb1 hrow; dsimp only))
        all_goals (try go_wp2_with fail)
        all_goals go_meet
        all_goals first
          | exact ⟨_, rfl, heap_alloc_new _ _, z1, HBB.out.alloc z1 _⟩
          | exact ⟨_, rfl, heap_setCell_same _ _ 1 _ _ _ (heap_setCell_same _ _ 0 _ _ _ HR.out), Nat.le_refl _, (HBB.out.setCell (Nat.le_refl _) _).setCell (Nat.le_refl _) _⟩
      case rest =>
        obtain ⟨P, rfl, hrow, hP, hbc⟩ := hcut
        have G1 := hidden (H1.out.below hbc)
        have G2 := hidden (H2.out.below hbc)
        have G3 := hidden (H3.out.below hbc)
        have G4 := hidden (H4.out.below hbc)
        have G5 := hidden (below_then H5.out (by omega) hbc)
        have HOW2 := hidden (HOW.out.kept (row := none) ⟨hbc.os, hbc.tape, hbc.output, hbc.size, fun k hk _ => hbc.block k hk⟩ (by simp))
        have hkey := keyOf_part (key2 g f b) hgb
        unfold key2 at hkey
        have c0 := cell_of_row wc P 0 _ _ _ hrow
        have c1 := cell_of_row wc P 1 _ _ _ hrow
        simp at c0 c1
        have g6 := hbc.size
        have hpl : P < wc.heap.size := cell_lt c0
        clear hbc hrow H1 H2 H3 H4 H5 HOW s0 s1 s2 s3 ca
        have hcn := cntK_le (key2 g f) b
        have hcl := cls_le (key2 g f) b
        by_cases hf : fstK (key2 g f) b < b
        · have hkn := HM.out.known hgb hf
          have hhas : Maps.has D (kl (g b, f b)) = true := hkn.1
          have HAT := hidden (show D.atKey (kl (g b, f b)) (.lit (.int .i64 0)) = .lit (.int .i64 (clsK (key2 g f) b)) from hkn.2)
          have HM2 := hidden (HM.out.old hf)
          have hw : IntKind.u8.wrap (clsK (key2 g f) b : Int) = clsK (key2 g f) b := by rw [IntKind.wrap_u8]; omega
          have hfz := G4.out.frozen b
          have hco := G4.out.cell hlt
          have HNW := hidden (upG_put (clsK (key2 g f)) b)
          clear hkn hf
          generalize clsK (key2 g f) b = x at *
          go_wp2_with (at_lookup; refine wpList_lookup_own_ok_int _ rfl _ _ 125 rfl 127 3 .i64 keyedPart Tryz.underlying125 Tryz.underlying3 (zeroInt _) (w.heap.size + 3) b D rfl HOW2.out _ _ rfl hkey ?_; intro c hat hwc; obtain rfl : c = (x : Int) := (by have h1 := hat.symm.trans HAT.out; simpa using h1))
          refine ⟨⟨b + 1, D, by omega, by go_num, HM2.out, (HOW2.out.setCell (by dsimp only; omega) _).mono (Nat.le_succ _), G1.out.other (by omega) _, G2.out.otherK (by omega) _, G3.out.other (by omega) _, (G4.out.stored b _).congr fun j _ => ?_, G5.out.setCell (by dsimp only; omega) _, Nat.le_trans (by omega) ((Below.refl 0 wc).setCell (Nat.zero_le _) _).size⟩, by simp [intOf]; omega⟩
          rw [putN_nV]
          unfold nV
          rw [HNW.out]
        · obtain hf2 : fstK (key2 g f) b = b := by have := fst_le (key2 g f) b; omega
          have hhas : Maps.has D (kl (g b, f b)) = false := HM.out.unknown hgb hf2
          have HSZ := hidden HM.out.size
          have HM2 := hidden (HM.out.fresh (HOW2.out.tidy keyedPart) (fun j hj => HH.out j (by omega)) hf2)
          have HX := hidden (cls_new (key2 g f) hf2)
          have hw : IntKind.u8.wrap (cntK (key2 g f) b : Int) = cntK (key2 g f) b := by rw [IntKind.wrap_u8]; omega
          have hwf : (Lit.int .i64 (cntK (key2 g f) b : Int)).wf = true := WalkArith.wf_i64 (by omega)
          have HNW := hidden (upG_put (clsK (key2 g f)) b)
          clear hf hf2
          go_wp2_with (first
            | (at_lookup; refine wpList_lookup_own_ok_int _ rfl _ _ 125 rfl 127 3 .i64 keyedPart Tryz.underlying125 Tryz.underlying3 (zeroInt _) (w.heap.size + 3) b D rfl HOW2.out _ _ rfl hkey ?_; intro c hat hwc; clear hat hwc)
            | (at_len; refine wpList_len_own _ rfl _ 125 rfl 127 3 Tryz.underlying125 _ (w.heap.size + 3) b D rfl HOW2.out ?_; rw [HSZ.out])
            | (at_mapUpdate; refine wpList_mapUpdate_own _ rfl _ _ _ 125 rfl 127 3 keyedPart Tryz.underlying125 (plainElem (H := Unit) Tryz.prog 3) (w.heap.size + 3) b D rfl HOW2.out (by unfold maxLen; omega) _ _ _ rfl rfl hkey _ [] (plainElem_int Tryz.underlying3 hwf) ?_; intro w1 hown1 hgrow1; have HG1 := hidden hgrow1; have HO1 := hidden hown1; have f4 := (hgrow1.block (w.heap.size + 4) G4.out.lt (by simp)).trans G4.out; have hfz := frozen_of_row w1 (w.heap.size + 4) b _ _ f4; have hco := (cell_of_row w1 (w.heap.size + 4) b _ _ _ f4).trans (cellsN_get _ hlt); clear f4 hown1 hgrow1))
          have ga : ∀ {B : Nat} {u : Nat → Value}, ArrAt wc B 30 u → B ≠ w.heap.size + 3 → ArrAt w1 B 30 u := fun h hne => (HG1.out.block _ h.lt (fun e => hne (Option.some.inj e))).trans h
          have gs : SetAt w1 (w.heap.size + 1) f := (HG1.out.block _ G2.out.lt (by simp)).trans G2.out
          have gb : Below w.heap.size w w1 := G5.out.grown HG1.out (by omega) (fun j hj => by cases hj; omega)
          have gz := HG1.out.size
          refine ⟨⟨b + 1, _, by omega, by go_num, HM2.out, HO1.out.setCell (by dsimp only; omega) _, (ga G1.out (by omega)).other (by omega) _, gs.otherK (by omega) _, (ga G3.out (by omega)).other (by omega) _, ((ga G4.out (by omega)).stored b _).congr fun j _ => ?_, gb.setCell (by dsimp only; omega) _, Nat.le_trans (by omega) ((Below.refl 0 w1).setCell (Nat.zero_le _) _).size⟩, by simp [intOf]; omega⟩
          rw [putN_nV, ← HX.out]
          unfold nV
          rw [HNW.out]
    · obtain rfl : b = 256 := by omega
      clear hM hown h1 h2 h3 h4 h5
      go_wp2_with (first
        | (refine load_arr rfl (x := .tmp 6) rfl (B := w.heap.size + 4) rfl H4.out ?_)
        | (refine store_arr rfl (x := .tmp 4) (y := .tmp 41) rfl (B := w.heap.size + 2) (upG (clsK (key2 g f)) 256) rfl rfl H3.out ?_; intro w3 hw3 hs3))
      have HE : Hid (ArrAt w3 (w.heap.size + 2) 30 (nV (upG (clsK (key2 g f)) 256)) ∧ Below w.heap.size w w3) := by
        have e := hw3.out
        subst e
        exact ⟨H3.out.storedRow _, below_setRow H5.out (by omega) _⟩
      exact ret_arr Tryz.results69 rfl rfl HE.out.1 (fun n hn => by unfold nV; rw [upG_all _ hn]) ⟨rfl, HE.out.2⟩
end Go.Proofs.YtmpjjnjggihojaaGreatDoor

/- Contract of the program's divides. -/
namespace Go.Proofs.YtmpjjnjggihojaaGreatDoor
open Go.RowKit

/-- what divides says: at 'no' no class has bytes of both kinds -/
def DivR (g : Nat → Nat) (f : Nat → Bool) (w : World) (e : Ending) (w' : World) : Prop :=
  ∃ r : Bool, e = .returned (.bool r) ∧ (r = false → ∀ a b, a < 256 → b < 256 → g a = g b → f a = f b) ∧ Below w.heap.size w w'
/-- the two tables behind k rounds -/
structure Tabs (g : Nat → Nat) (f p q : Nat → Bool) (k : Nat) : Prop where
  yes : ∀ j, j < k → f j = true → p (g j) = true
  no : ∀ j, j < k → f j = false → q (g j) = true
  apart : ∀ c, p c = true → q c = false
theorem Tabs.start (g : Nat → Nat) (f : Nat → Bool) : Tabs g f (fun _ => false) (fun _ => false) 0 := ⟨fun j h => by omega, fun j h => by omega, fun c h => by cases h⟩
theorem Tabs.more1 {g : Nat → Nat} {f p q : Nat → Bool} {k : Nat} (h : Tabs g f p q k) (hf : f k = true) (hq : q (g k) = false) : Tabs g f (putB p (g k) true) q (k + 1) :=
  ⟨fun j hj hj2 => by
    unfold putB
    by_cases e : g j = g k
    · rw [if_pos e]
    · rw [if_neg e]
      exact h.yes j (by by_cases e2 : j = k; (· subst e2; exact absurd rfl e); omega) hj2,
  fun j hj hj2 => h.no j (by by_cases e2 : j = k; (· subst e2; rw [hf] at hj2; cases hj2); omega) hj2,
  fun c hc => by
    unfold putB at hc
    by_cases e : c = g k
    · rw [e]; exact hq
    · rw [if_neg e] at hc
      exact h.apart c hc⟩
theorem Tabs.more0 {g : Nat → Nat} {f p q : Nat → Bool} {k : Nat} (h : Tabs g f p q k) (hf : f k = false) (hp : p (g k) = false) : Tabs g f p (putB q (g k) true) (k + 1) :=
  ⟨fun j hj hj2 => h.yes j (by by_cases e2 : j = k; (· subst e2; rw [hf] at hj2; cases hj2); omega) hj2,
  fun j hj hj2 => by
    unfold putB
    by_cases e : g j = g k
    · rw [if_pos e]
    · rw [if_neg e]
      exact h.no j (by by_cases e2 : j = k; (· subst e2; exact absurd rfl e); omega) hj2,
  fun c hc => by
    unfold putB
    by_cases e : c = g k
    · rw [e, hp] at hc; cases hc
    · rw [if_neg e]
      exact h.apart c hc⟩
theorem Tabs.all {g : Nat → Nat} {f p q : Nat → Bool} (h : Tabs g f p q 256) : ∀ a b, a < 256 → b < 256 → g a = g b → f a = f b := by
  intro a b ha hb e
  cases h1 : f a <;> cases h2 : f b
  · rfl
  · have := h.apart _ (h.yes b hb h2)
    rw [← e, h.no a ha h1] at this
    cases this
  · have := h.apart _ (h.yes a ha h1)
    rw [e, h.no b hb h2] at this
    cases this
  · rfl

set_option maxHeartbeats 1000000 in
set_option maxRecDepth 100000 in
theorem divides_calls (g : Nat → Nat) (f : Nat → Bool) (w : World) (hg : ∀ j, j < 256 → g j < 256) :
    Calls Tryz.prog 68 #[(.agg #[.int .u64 (word (f) 0), .int .u64 (word (f) 1), .int .u64 (word (f) 2), .int .u64 (word (f) 3)]), ar g] w (DivR g f w) := by
  have HH := hidden hg
  clear hg
  have hbx := run_box_arr g
  have hal := run_zero_arrb
  go_enter Tryz.func68, Tryz.ntmps68
  go_wp2
  go_loopw [9] (fun i wr => ∃ k : Nat, ∃ p q : Nat → Bool, k ≤ 256 ∧ i = .int .i64 k ∧ Tabs g f p q k ∧ SetAt wr w.heap.size f ∧ ArrAt wr (w.heap.size + 1) 30 (nV g) ∧ ArrAt wr (w.heap.size + 2) 124 (bV p) ∧ ArrAt wr (w.heap.size + 3) 124 (bV q) ∧ Below w.heap.size w wr ∧ w.heap.size + 4 ≤ wr.heap.size) (fun i _ => 256 - (intOf i).toNat)
  case atStart =>
    have hA := ArrAt.newAt (t := 30) (v := nV g) (show (w.alloc (.cells #[.int .u64 (word (f) 0), .int .u64 (word (f) 1), .int .u64 (word (f) 2), .int .u64 (word (f) 3)] 74)).heap.size = w.heap.size + 1 by simp)
    have hP := ArrAt.newAt (t := 124) (v := bV fun _ => false) (show ((w.alloc (.cells #[.int .u64 (word (f) 0), .int .u64 (word (f) 1), .int .u64 (word (f) 2), .int .u64 (word (f) 3)] 74)).alloc (.cells (cellsN (nV g)) 30)).heap.size = w.heap.size + 2 by simp)
    have hQ := ArrAt.newAt (t := 124) (v := bV fun _ => false) (show (((w.alloc (.cells #[.int .u64 (word (f) 0), .int .u64 (word (f) 1), .int .u64 (word (f) 2), .int .u64 (word (f) 3)] 74)).alloc (.cells (cellsN (nV g)) 30)).alloc (.cells (cellsN (bV fun _ => false)) 124)).heap.size = w.heap.size + 3 by simp)
    exact ⟨0, _, _, by omega, rfl, Tabs.start g f, (((SetAt.new w f).alloc _).alloc _).alloc _, (hA.alloc _).alloc _, hP.alloc _, hQ, by go_grown, by simp⟩
  case round =>
    obtain ⟨k, p, q, hk, rfl, hT, h0, h1, h2, h3, h5, h6⟩ := hrel
    have HT := hidden hT
    have H0 := hidden h0
    have H1 := hidden h1
    have H2 := hidden h2
    have H3 := hidden h3
    have H5 := hidden h5
    by_cases hlt : k < 256
    · have ca := h1.cell hlt
      obtain ⟨s0, s1, s2, s3, _, _, _, _⟩ := h0.facts
      clear hT h0 h1 h2 h3 h5
      unfold nV at ca
      have hgk := HH.out k hlt
      have wb : IntKind.u8.wrap (k : Int) = k := by rw [IntKind.wrap_u8]; omega
      go_wp2_with fail
      refine (bhas_nat f k _ hlt).mono ?_
      rintro e w5 ⟨rfl, hb5⟩
      have G0 := hidden (H0.out.below hb5)
      have G1 := hidden (H1.out.below hb5)
      have G2 := hidden (H2.out.below hb5)
      have G3 := hidden (H3.out.below hb5)
      have G5 := hidden (below_then H5.out (by omega) hb5)
      have g6 := hb5.size
      have p0 := (H2.out.below hb5).cell hgk
      have p1 := (H2.out.below hb5).frozen (g k)
      have q0 := (H3.out.below hb5).cell hgk
      have q1 := (H3.out.below hb5).frozen (g k)
      clear hb5 H0 H1 H2 H3 H5 s0 s1 s2 s3 ca
      unfold bV at p0 q0
      cases hf : f k
      · cases hp : p (g k)
        · have HM := hidden (HT.out.more0 hf hp)
          rw [hp] at p0
          clear hp hf
          go_wp2
          refine ⟨⟨k + 1, p, putB q (g k) true, by omega, by go_num, HM.out, G0.out.otherK (by omega) _, G1.out.other (by omega) _, G2.out.other (by omega) _, (G3.out.stored (g k) _).congr fun j _ => putN_bV q (g k) true j, G5.out.setCell (by dsimp only; omega) _, Nat.le_trans (by omega) ((Below.refl 0 w5).setCell (Nat.zero_le _) _).size⟩, by simp [intOf]; omega⟩
        · rw [hp] at p0
          clear hp hf
          go_wp2
          go_ret
          exact ⟨true, rfl, (fun h => by cases h), G5.out.setCell (by dsimp only; omega) _⟩
      · cases hq : q (g k)
        · have HM := hidden (HT.out.more1 hf hq)
          rw [hq] at q0
          clear hq hf
          go_wp2
          refine ⟨⟨k + 1, putB p (g k) true, q, by omega, by go_num, HM.out, G0.out.otherK (by omega) _, G1.out.other (by omega) _, (G2.out.stored (g k) _).congr fun j _ => putN_bV p (g k) true j, G3.out.other (by omega) _, G5.out.setCell (by dsimp only; omega) _, Nat.le_trans (by omega) ((Below.refl 0 w5).setCell (Nat.zero_le _) _).size⟩, by simp [intOf]; omega⟩
        · rw [hq] at q0
          clear hq hf
          go_wp2
          go_ret
          exact ⟨true, rfl, (fun h => by cases h), G5.out.setCell (by dsimp only; omega) _⟩
    · obtain rfl : k = 256 := by omega
      clear hT h0 h1 h2 h3 h5
      go_wp2
      go_ret
      exact ⟨false, rfl, fun _ => HT.out.all, H5.out⟩
end Go.Proofs.YtmpjjnjggihojaaGreatDoor

/- Contract of the program's Of. -/
namespace Go.Proofs.YtmpjjnjggihojaaGreatDoor
open Go.RowKit
attribute [local go_sem] Rl.evalR_tmp Rl.evalR_const Rl.evalR_global Rl.evalR_func

/-- a whole array is loaded, in a region met operation by operation -/
theorem does_load_arr {o : Oper} {ρ : Tmp → Value} {w : World} {Kv : Value → World → Prop} {x : Tmp} {B : Nat} {v : Nat → Value} (ho : o.op = .load 30 (.tmp x)) (hx : ρ x = .pointer (some ⟨B, 0, none⟩)) (hA : ArrAt w B 30 v) (h : Kv (.agg (cellsN v)) w) : Rl.Does Tryz.prog o ρ w Kv := by
  have hl := run_loadVar_row (P := Tryz.prog) w B 30 30 _ (0, 0) _ hA Tryz.underlying30 rfl (by rw [cellsN_size]; exact size_arr)
  unfold Rl.Does execOp
  simp only [ho, Rl.evalR_tmp, hx, Instr.loadAt, Instr.sureAddr, Sem.run_bind, Sem.run_pure, Result.andThen_ok, hl]
  exact h

/-- the classes behind k sets -/
def ofK (fs : List (Nat → Bool)) (k : Nat) (b : Nat) : Nat := clsK (keyL (fs.take k)) b
theorem ofK_lt (fs : List (Nat → Bool)) (k : Nat) {b : Nat} (h : b < 256) : ofK fs k b < 256 :=
  Nat.lt_of_lt_of_le (cls_lt _ h) (cntK_le _ 256)
theorem ofK_none (fs : List (Nat → Bool)) (b : Nat) : ofK fs 0 b = 0 := by
  have h : fstK (keyL (fs.take 0)) b = 0 := fst_eq _ rfl fun x hx => by omega
  unfold ofK clsK
  rw [h]
  rfl
theorem ofK_split {fs : List (Nat → Bool)} {k : Nat} (hk : k < fs.length) {b : Nat} (hb : b < 256) : clsK (key2 (ofK fs k) (fs.getD k fNone)) b = ofK fs (k + 1) b :=
  cls_congr (n := 256) (fun x y _ _ => by
    unfold key2 ofK
    rw [Prod.mk.injEq, cls_key, keyL_pair hk]) hb
theorem ofK_same {fs : List (Nat → Bool)} {k : Nat} (hk : k < fs.length) (h : ∀ a b, a < 256 → b < 256 → ofK fs k a = ofK fs k b → fs.getD k fNone a = fs.getD k fNone b) {b : Nat} (hb : b < 256) : ofK fs k b = ofK fs (k + 1) b :=
  cls_congr (n := 256) (fun x y hx hy => by
    rw [keyL_pair hk]
    exact ⟨fun e => ⟨e, h x y hx hy ((cls_key _).2 e)⟩, fun e => e.1⟩) hb
theorem ofK_all (fs : List (Nat → Bool)) (b : Nat) : ofK fs fs.length b = clsK (keyL fs) b := by
  unfold ofK
  rw [List.take_length]
theorem wid_congr {g h : Nat → Nat} : ∀ {n : Nat}, (∀ j, j < n → g j = h j) → wid g n = wid h n
  | 0, _ => rfl
  | n + 1, e => by
    show max (wid g n) (g n + 1) = max (wid h n) (h n + 1)
    rw [wid_congr fun j hj => e j (by omega), e n (by omega)]
theorem wid_cls {κ : Type} [DecidableEq κ] (k : Nat → κ) : ∀ n, wid (clsK k) n = cntK k n
  | 0 => rfl
  | n + 1 => by
    show max (wid (clsK k) n) (clsK k n + 1) = _
    rw [wid_cls k n]
    by_cases e : fstK k n = n
    · rw [cls_new k e, cnt_new k e]; omega
    · have := cls_old k e
      rw [cnt_old k e]; omega

set_option maxHeartbeats 1000000 in
set_option maxRecDepth 100000 in
theorem of_calls (l : Option Addr) (len cap : Nat) (fs : List (Nat → Bool)) (w : World) (hl : len ≤ 9223372036854775807) (hS : Sets w l len fs) :
    Calls Tryz.prog 51 #[.slice l len cap] w fun e w' => e = .returned (.tuple #[ar (clsK (keyL fs)), .int .i64 (cntK (keyL fs) 256)]) ∧ Below w.heap.size w w' := by
  have HS := hidden hS
  have HN := hidden hS.1
  clear hS
  have hal := run_zero_arr
  go_enter Tryz.func51, Tryz.ntmps51
  go_wp2
  go_loopw [9] (fun i wr => ∃ k : Nat, k ≤ len ∧ i = .int .i64 k ∧ ArrAt wr w.heap.size 30 (nV fun _ => 0) ∧ ArrAt wr (w.heap.size + 1) 30 (nV (ofK fs k)) ∧ Below w.heap.size w wr ∧ w.heap.size + 2 ≤ wr.heap.size) (fun i _ => len - (intOf i).toNat)
  case atStart =>
    have hP := ArrAt.newAt (t := 30) (v := nV fun _ => 0) (show (w.alloc (.cells (cellsN (nV fun _ => 0)) 30)).heap.size = w.heap.size + 1 by simp)
    exact ⟨0, by omega, rfl, (ArrAt.new _ _ _).alloc _, hP.congr fun j _ => by unfold nV; rw [ofK_none], by go_grown, by simp⟩
  case round =>
    obtain ⟨k, hk, rfl, h1, h2, h5, h6⟩ := hrel
    have H1 := hidden h1
    have H2 := hidden h2
    have H5 := hidden h5
    clear h1 h2 h5
    by_cases hlt : k < len
    · obtain ⟨b, off, rfl, hbl, e0, e1, e2, e3⟩ := (HS.out.below H5.out).at' hlt
      obtain ⟨f, hf⟩ : ∃ f, f = fs.getD k fNone := ⟨_, rfl⟩
      rw [← hf] at e0 e1 e2 e3
      have HF := hidden hf
      clear hf
      go_wp2_with (refine load_arr rfl (x := .tmp 4) rfl (B := w.heap.size + 1) rfl (H2.out.alloc _) ?_)
      refine (divides_calls (ofK fs k) f _ (fun j hj => ofK_lt fs k hj)).mono ?_
      rintro e w5 ⟨r, rfl, hr, hb5⟩
      have hba := (Below.refl wr.heap.size wr).alloc (Nat.le_refl _) (.cells #[.int .u64 (word (f) 0), .int .u64 (word (f) 1), .int .u64 (word (f) 2), .int .u64 (word (f) 3)] 74)
      have hbx5 := below_then hba (by simp) hb5
      have G0 := hidden ((SetAt.new wr f).below hb5)
      have G1 := hidden (H1.out.below hbx5)
      have G2 := hidden (H2.out.below hbx5)
      have G5 := hidden (below_then H5.out (by omega) hbx5)
      have g6 := hbx5.size
      clear hba hb5 hbx5 H1 H2 H5 e0 e1 e2 e3
      cases r with
      | true =>
        clear hr
        obtain ⟨p0, p1, p2, p3, _, _, _, _⟩ := G0.out.facts
        go_wp2_with (first
          | (refine load_arr rfl (x := .tmp 4) rfl (B := w.heap.size + 1) rfl G2.out ?_)
          | (refine (split_calls (ofK fs k) f _ (fun j hj => ofK_lt fs k hj)).mono ?_; rintro e w7 ⟨rfl, hb7⟩; have F1 := hidden (G1.out.below hb7); have F2 := hidden (G2.out.below hb7); have F5 := hidden (below_then G5.out (by omega) hb7); have f6 := hb7.size; clear hb7; dsimp only)
          | (refine store_arr rfl (x := .tmp 4) (y := .tmp 18) rfl (B := w.heap.size + 1) (clsK (key2 (ofK fs k) f)) rfl rfl F2.out ?_; intro w8 hw8 hs8))
        have e := hw8.out
        subst e
        refine ⟨⟨k + 1, by omega, by go_num, F1.out.otherRow (by omega) _, (F2.out.storedRow _).congr fun j hj => ?_, below_setRow F5.out (by omega) _, by rw [setRow_size]; omega⟩, by simp [intOf]; omega⟩
        unfold nV
        rw [HF.out, ofK_split (by rw [HN.out]; exact hlt) hj]
      | false =>
        have HR := hidden (hr rfl)
        clear hr
        go_wp2
        refine ⟨⟨k + 1, by omega, by go_num, G1.out, G2.out.congr fun j hj => ?_, G5.out, by omega⟩, by simp [intOf]; omega⟩
        unfold nV
        rw [ofK_same (by rw [HN.out]; exact hlt) (fun a b ha hb e => by have := HR.out a b ha hb e; rwa [HF.out] at this) hj]
    · obtain rfl : k = len := by omega
      go_wp2
      have HW0 := hidden (below_drawn (Below.refl wr.heap.size wr) 1)
      refine Rl.wp_region_stepsT (R := fun w1 w2 => Below w1.heap.size w1 w2) 3 (Rl.typ [Rl.Is (ar (ofK fs k)), Rl.Is (ar (ofK fs k)), Rl.Is (.int .i64 (wid (ofK fs k) 256))]) (fun w1 => Below wr.heap.size wr w1) (fun w => Below.refl _ _) (by kernel_rfl) (by kernel_rfl) (by kernel_rfl) (by kernel_rfl) (by kernel_rfl) (by kernel_rfl) ?mono HW0.out ?step ?last
      case mono =>
        refine Rl.typ_mono ?_
        simp only [List.forall_mem_cons]
        repeat' (first | exact (fun v w w' h _ => h) | (intro p hp; cases hp; done) | refine And.intro ?_ ?_)
      case step =>
        refine ⟨?_, ?_, ?_, trivial⟩
        · change Rl.StepOk _ _ _ _ _ _ _ _
          intro ρ w1 hF hW
          have e4 : ρ 4 = .pointer (some ⟨w.heap.size + 1, 0, none⟩) := hF 4 (by decide)
          exact does_load_arr rfl e4 (H2.out.under hW (by omega)) ⟨rfl, hW, Below.refl _ _⟩
        · change Rl.StepOk _ _ _ _ _ _ _ _
          intro ρ w1 hF hW
          have e4 : ρ 4 = .pointer (some ⟨w.heap.size + 1, 0, none⟩) := hF 4 (by decide)
          exact does_load_arr rfl e4 (H2.out.under hW (by omega)) ⟨rfl, hW, Below.refl _ _⟩
        · change Rl.StepOk _ _ _ _ _ _ _ _
          intro ρ w1 hF hW
          have e21 : ρ 21 = ar (ofK fs k) := hF 21 (by decide)
          clear hF
          have HW := hidden hW
          clear hW
          unfold Rl.Does
          go_simp
          refine (width_calls (ofK fs k) _ (fun j hj => ofK_lt fs k hj)).mono ?_
          rintro e w2 ⟨rfl, hb⟩
          exact ⟨_, rfl, rfl, below_then HW.out HW.out.size hb, hb⟩
      case last =>
        intro a1 w1 hs hv hW
        have h20 : a1.tmps.getD 20 undef = ar (ofK fs k) := hv 0 20 (by decide) (by kernel_rfl)
        have h22 : a1.tmps.getD 22 undef = .int .i64 (wid (ofK fs k) 256) := hv 2 22 (by decide) (by kernel_rfl)
        have hd := hs.defers
        have hz := hs.lit [20, 21, 22, 3] (by kernel_rfl)
        have G1 := hidden (H1.out.under hW (by omega))
        have G5 := hidden (below_then H5.out (by omega) hW)
        have hsw := hW.size
        clear hs hv hW
        obtain ⟨tm, df⟩ := a1
        simp only at hz hd h20 h22
        simp only [List.foldl_cons, List.foldl_nil, List.setIfInBounds_toArray, List.set_cons_zero, List.set_cons_succ] at hz
        rw [h20, h22] at hz
        generalize tm.getD 21 undef = u21 at hz
        generalize tm.getD 3 undef = u3 at hz
        clear h20 h22
        subst hz hd
        refine Rl.wpOp_of_list2 rfl rfl rfl rfl ?_
        go_wp2_with (refine store_arr rfl (x := .tmp 2) (y := .tmp 20) rfl (B := w.heap.size) (ofK fs k) rfl rfl G1.out ?_; intro w8 hw8 hs8)
        have e := hw8.out
        subst e
        have he : ofK fs k = clsK (keyL fs) := funext fun b => by rw [← HN.out]; exact ofK_all fs b
        exact ret_arr2 (x := .int .i64 (wid (ofK fs k) 256)) Tryz.results51 rfl rfl rfl (G1.out.storedRow (nV (ofK fs k))) (fun n hn => rfl) ⟨by rw [he, wid_cls], below_setRow G5.out (by omega) _⟩
end Go.Proofs.YtmpjjnjggihojaaGreatDoor
