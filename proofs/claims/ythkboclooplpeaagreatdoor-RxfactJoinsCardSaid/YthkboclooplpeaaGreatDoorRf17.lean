/- FaLetT, FaLetB, put together. -/
import Derived.Test.YthkboclooplpeaaGreatDoorRf16
/- Sets of first bytes and of bytes used, in memory: letters.then. -/
namespace Go.Proofs.YthkboclooplpeaaGreatDoor
open Go.RowKit Go.Lib Go.Joins

theorem let_new (w : World) : LetAt (w.alloc (.cells #[.bool false, .bool false, .int .u64 0, .int .u64 0, .int .u64 0, .int .u64 0, .int .u64 0, .int .u64 0, .int .u64 0, .int .u64 0] 66)) w.heap.size ⟨false, false, fNone, fNone⟩ := by
  unfold LetAt
  simp only [word_zero]
  exact heap_alloc_new w _
theorem Wor.start (w : World) (a b : Let) : Wor w a b ((((w.alloc (.cells #[.bool a.some, .bool a.null, .int .u64 (word (a.first) 0), .int .u64 (word (a.first) 1), .int .u64 (word (a.first) 2), .int .u64 (word (a.first) 3), .int .u64 (word (a.used) 0), .int .u64 (word (a.used) 1), .int .u64 (word (a.used) 2), .int .u64 (word (a.used) 3)] 66)).alloc (.cells #[.bool b.some, .bool b.null, .int .u64 (word (b.first) 0), .int .u64 (word (b.first) 1), .int .u64 (word (b.first) 2), .int .u64 (word (b.first) 3), .int .u64 (word (b.used) 0), .int .u64 (word (b.used) 1), .int .u64 (word (b.used) 2), .int .u64 (word (b.used) 3)] 66)).alloc (.cells #[.bool false, .bool false, .int .u64 0, .int .u64 0, .int .u64 0, .int .u64 0, .int .u64 0, .int .u64 0, .int .u64 0, .int .u64 0] 66))) := by
  have h1 : LetAt (w.alloc (.cells #[.bool a.some, .bool a.null, .int .u64 (word (a.first) 0), .int .u64 (word (a.first) 1), .int .u64 (word (a.first) 2), .int .u64 (word (a.first) 3), .int .u64 (word (a.used) 0), .int .u64 (word (a.used) 1), .int .u64 (word (a.used) 2), .int .u64 (word (a.used) 3)] 66)) w.heap.size a := heap_alloc_new w _
  have b1 := (Below.refl w.heap.size w).alloc (Nat.le_refl _) (.cells #[.bool a.some, .bool a.null, .int .u64 (word (a.first) 0), .int .u64 (word (a.first) 1), .int .u64 (word (a.first) 2), .int .u64 (word (a.first) 3), .int .u64 (word (a.used) 0), .int .u64 (word (a.used) 1), .int .u64 (word (a.used) 2), .int .u64 (word (a.used) 3)] 66)
  have h2 : LetAt ((w.alloc (.cells #[.bool a.some, .bool a.null, .int .u64 (word (a.first) 0), .int .u64 (word (a.first) 1), .int .u64 (word (a.first) 2), .int .u64 (word (a.first) 3), .int .u64 (word (a.used) 0), .int .u64 (word (a.used) 1), .int .u64 (word (a.used) 2), .int .u64 (word (a.used) 3)] 66)).alloc (.cells #[.bool b.some, .bool b.null, .int .u64 (word (b.first) 0), .int .u64 (word (b.first) 1), .int .u64 (word (b.first) 2), .int .u64 (word (b.first) 3), .int .u64 (word (b.used) 0), .int .u64 (word (b.used) 1), .int .u64 (word (b.used) 2), .int .u64 (word (b.used) 3)] 66)) (w.heap.size + 1) b := heap_alloc2_new w _ _
  refine ⟨(h1.below ((Below.refl _ _).alloc (Nat.le_refl _) _)).below ((Below.refl _ _).alloc (Nat.le_refl _) _), h2.below ((Below.refl _ _).alloc (Nat.le_refl _) _), ⟨⟨false, false, fNone, fNone⟩, ?_⟩, (b1.alloc (by simp) _).alloc (by simp; omega) _⟩
  have hs : ((w.alloc (.cells #[.bool a.some, .bool a.null, .int .u64 (word (a.first) 0), .int .u64 (word (a.first) 1), .int .u64 (word (a.first) 2), .int .u64 (word (a.first) 3), .int .u64 (word (a.used) 0), .int .u64 (word (a.used) 1), .int .u64 (word (a.used) 2), .int .u64 (word (a.used) 3)] 66)).alloc (.cells #[.bool b.some, .bool b.null, .int .u64 (word (b.first) 0), .int .u64 (word (b.first) 1), .int .u64 (word (b.first) 2), .int .u64 (word (b.first) 3), .int .u64 (word (b.used) 0), .int .u64 (word (b.used) 1), .int .u64 (word (b.used) 2), .int .u64 (word (b.used) 3)] 66)).heap.size = w.heap.size + 2 := by simp
  have h3 := let_new ((w.alloc (.cells #[.bool a.some, .bool a.null, .int .u64 (word (a.first) 0), .int .u64 (word (a.first) 1), .int .u64 (word (a.first) 2), .int .u64 (word (a.first) 3), .int .u64 (word (a.used) 0), .int .u64 (word (a.used) 1), .int .u64 (word (a.used) 2), .int .u64 (word (a.used) 3)] 66)).alloc (.cells #[.bool b.some, .bool b.null, .int .u64 (word (b.first) 0), .int .u64 (word (b.first) 1), .int .u64 (word (b.first) 2), .int .u64 (word (b.first) 3), .int .u64 (word (b.used) 0), .int .u64 (word (b.used) 1), .int .u64 (word (b.used) 2), .int .u64 (word (b.used) 3)] 66))
  rw [hs] at h3
  exact h3
theorem letV_none : letV ⟨false, false, fNone, fNone⟩ = .agg #[.bool false, .bool false, .int .u64 0, .int .u64 0, .int .u64 0, .int .u64 0, .int .u64 0, .int .u64 0, .int .u64 0, .int .u64 0] := by
  unfold letV
  simp only [word_zero]
attribute [local go_sem] evalR_tmp evalR_const evalR_global evalR_func
set_option maxHeartbeats 2000000 in
set_option maxRecDepth 100000 in
theorem letThen_none (a b : Let) (w : World) (h : a.some = false ∨ (a.some = true ∧ b.some = false)) : Calls Tryz.prog 88 #[letV a, letV b] w fun e w' => e = .returned (letV ⟨false, false, fNone, fNone⟩) ∧ Below w.heap.size w w' := by
  rcases a with ⟨a1, a2, a3, a4⟩
  rcases b with ⟨b1, b2, b3, b4⟩
  have hW := Wor.start w ⟨a1, a2, a3, a4⟩ ⟨b1, b2, b3, b4⟩
  have HF := hidden hW.frame
  have h3 := let_new ((w.alloc (.cells #[.bool a1, .bool a2, .int .u64 (word (a3) 0), .int .u64 (word (a3) 1), .int .u64 (word (a3) 2), .int .u64 (word (a3) 3), .int .u64 (word (a4) 0), .int .u64 (word (a4) 1), .int .u64 (word (a4) 2), .int .u64 (word (a4) 3)] 66)).alloc (.cells #[.bool b1, .bool b2, .int .u64 (word (b3) 0), .int .u64 (word (b3) 1), .int .u64 (word (b3) 2), .int .u64 (word (b3) 3), .int .u64 (word (b4) 0), .int .u64 (word (b4) 1), .int .u64 (word (b4) 2), .int .u64 (word (b4) 3)] 66))
  rw [show ((w.alloc (.cells #[.bool a1, .bool a2, .int .u64 (word (a3) 0), .int .u64 (word (a3) 1), .int .u64 (word (a3) 2), .int .u64 (word (a3) 3), .int .u64 (word (a4) 0), .int .u64 (word (a4) 1), .int .u64 (word (a4) 2), .int .u64 (word (a4) 3)] 66)).alloc (.cells #[.bool b1, .bool b2, .int .u64 (word (b3) 0), .int .u64 (word (b3) 1), .int .u64 (word (b3) 2), .int .u64 (word (b3) 3), .int .u64 (word (b4) 0), .int .u64 (word (b4) 1), .int .u64 (word (b4) 2), .int .u64 (word (b4) 3)] 66)).heap.size = w.heap.size + 2 by simp] at h3
  have H3 := hidden h3
  clear hW h3
  rw [show letV ⟨a1, a2, a3, a4⟩ = .agg #[.bool a1, .bool a2, .int .u64 (word (a3) 0), .int .u64 (word (a3) 1), .int .u64 (word (a3) 2), .int .u64 (word (a3) 3), .int .u64 (word (a4) 0), .int .u64 (word (a4) 1), .int .u64 (word (a4) 2), .int .u64 (word (a4) 3)] from rfl, show letV ⟨b1, b2, b3, b4⟩ = .agg #[.bool b1, .bool b2, .int .u64 (word (b3) 0), .int .u64 (word (b3) 1), .int .u64 (word (b3) 2), .int .u64 (word (b3) 3), .int .u64 (word (b4) 0), .int .u64 (word (b4) 1), .int .u64 (word (b4) 2), .int .u64 (word (b4) 3)] from rfl]
  generalize hv : letV ⟨false, false, fNone, fNone⟩ = v
  have HV := hidden hv
  clear hv
  rcases h with h | ⟨h, h'⟩
  · dsimp only at h
    subst h
    go_enter Tryz.func88, Tryz.ntmps88
    go_wp2
    exact ret_let (l := ⟨false, false, fNone, fNone⟩) Tryz.results88 rfl rfl H3.out ⟨by rw [HV.out], HF.out⟩
  · dsimp only at h h'
    subst h h'
    go_enter Tryz.func88, Tryz.ntmps88
    go_wp2
    exact ret_let (l := ⟨false, false, fNone, fNone⟩) Tryz.results88 rfl rfl H3.out ⟨by rw [HV.out], HF.out⟩

end Go.Proofs.YthkboclooplpeaaGreatDoor

/- Sets of first bytes and of bytes used, in memory: letters.then, where both have words. -/
namespace Go.Proofs.YthkboclooplpeaaGreatDoor
open Go.RowKit Go.Lib Go.Joins
attribute [local go_sem] evalR_tmp evalR_const evalR_global evalR_func
theorem arr_split (t : Array Value) : t = ((List.range t.size).map fun i => t.getD i undef).toArray := by
  apply Array.ext
  · simp
  · intro i h1 h2
    simp [h1]
theorem arr40 {t : Array Value} (h : t.size = 40) : t = #[t.getD 0 undef, t.getD 1 undef, t.getD 2 undef, t.getD 3 undef, t.getD 4 undef, t.getD 5 undef, t.getD 6 undef, t.getD 7 undef, t.getD 8 undef, t.getD 9 undef, t.getD 10 undef, t.getD 11 undef, t.getD 12 undef, t.getD 13 undef, t.getD 14 undef, t.getD 15 undef, t.getD 16 undef, t.getD 17 undef, t.getD 18 undef, t.getD 19 undef, t.getD 20 undef, t.getD 21 undef, t.getD 22 undef, t.getD 23 undef, t.getD 24 undef, t.getD 25 undef, t.getD 26 undef, t.getD 27 undef, t.getD 28 undef, t.getD 29 undef, t.getD 30 undef, t.getD 31 undef, t.getD 32 undef, t.getD 33 undef, t.getD 34 undef, t.getD 35 undef, t.getD 36 undef, t.getD 37 undef, t.getD 38 undef, t.getD 39 undef] := (arr_split t).trans (by rw [h]; rfl)
theorem wpList_q {P : Program} {ops : Array Oper} {Q : Exit → Act → World → Prop} {l : List Oper} {a : Act} {w : World} {K : Act → World → Prop} (h1 : ∀ Q : Exit → Act → World → Prop, (∀ a w, K a w → Q .normal a w) → wpList P ops Q l a w) (h2 : ∀ a w, K a w → Q .normal a w) : wpList P ops Q l a w := h1 Q h2
theorem LetAt.other {w w' : World} {B : Nat} {l : Let} (h : LetAt w B l) (hb : w'.heap[B]? = w.heap[B]?) : LetAt w' B l := hb.trans h
theorem Wor.stored {w wr : World} {a b : Let} {B : Nat} (h : Wor w a b wr) (l : Let) (hB : w.heap.size + 3 ≤ B) : Wor w a b ((((((((((wr.setCell ⟨B, 0, none⟩ (.bool l.some)).setCell ⟨B, 1, none⟩ (.bool l.null)).setCell ⟨B, 2, none⟩ (.int .u64 (word l.first 0))).setCell ⟨B, 3, none⟩ (.int .u64 (word l.first 1))).setCell ⟨B, 4, none⟩ (.int .u64 (word l.first 2))).setCell ⟨B, 5, none⟩ (.int .u64 (word l.first 3))).setCell ⟨B, 6, none⟩ (.int .u64 (word l.used 0))).setCell ⟨B, 7, none⟩ (.int .u64 (word l.used 1))).setCell ⟨B, 8, none⟩ (.int .u64 (word l.used 2))).setCell ⟨B, 9, none⟩ (.int .u64 (word l.used 3))) := by
  have hb := let_frame (Below.refl B wr) (Nat.le_refl _) l
  exact ⟨h.one.other (hb.block _ (by omega)), h.two.other (hb.block _ (by omega)), h.out.imp fun _ h => h.other (hb.block _ (by omega)), let_frame h.frame (by omega) l⟩
def Lth (w : World) (a b : Let) : List (Value → World → Prop) := [
  Is (.pointer (some ⟨w.heap.size, 1, none⟩)), Is (.bool a.null), Is (.bool a.null), fun v _ => a.null = true → v = .pointer (some ⟨w.heap.size + 1, 1, none⟩), fun v _ => a.null = true → v = .bool b.null, Is (.bool (a.null && b.null)), Is (.pointer (some ⟨w.heap.size, 2, none⟩)), Is (.agg #[.int .u64 (word (a.first) 0), .int .u64 (word (a.first) 1), .int .u64 (word (a.first) 2), .int .u64 (word (a.first) 3)]), Is (.pointer (some ⟨w.heap.size, 6, none⟩)), Is (.agg #[.int .u64 (word (a.used) 0), .int .u64 (word (a.used) 1), .int .u64 (word (a.used) 2), .int .u64 (word (a.used) 3)]), Is (.pointer (some ⟨w.heap.size + 1, 6, none⟩)), Is (.agg #[.int .u64 (word (b.used) 0), .int .u64 (word (b.used) 1), .int .u64 (word (b.used) 2), .int .u64 (word (b.used) 3)]), fun v w => ∃ ad, v = .slice ad 2 2 ∧ Sets w ad 2 [a.used, b.used], Is (.agg #[.int .u64 (word (fAny [a.used, b.used]) 0), .int .u64 (word (fAny [a.used, b.used]) 1), .int .u64 (word (fAny [a.used, b.used]) 2), .int .u64 (word (fAny [a.used, b.used]) 3)]), Is (.agg #[.bool true, .bool (a.null && b.null), .int .u64 (word (a.first) 0), .int .u64 (word (a.first) 1), .int .u64 (word (a.first) 2), .int .u64 (word (a.first) 3), .int .u64 (word (fAny [a.used, b.used]) 0), .int .u64 (word (fAny [a.used, b.used]) 1), .int .u64 (word (fAny [a.used, b.used]) 2), .int .u64 (word (fAny [a.used, b.used]) 3)]), fun v wr => ∃ B, v = .pointer (some ⟨B, 0, none⟩) ∧ w.heap.size + 3 ≤ B ∧ LetAt wr B ⟨false, false, fNone, fNone⟩]
set_option maxHeartbeats 8000000 in
set_option maxRecDepth 100000 in
theorem letThen_both (a b : Let) (w : World) (ha : a.some = true) (hb : b.some = true) (F : Nat → Bool) (hF : F = if a.null = true then fAny [a.first, b.first] else a.first) :
    Calls Tryz.prog 88 #[letV a, letV b] w fun e w' => e = .returned (letV ⟨true, a.null && b.null, F, fAny [a.used, b.used]⟩) ∧ Below w.heap.size w w' := by
  have HF0 := hidden hF
  clear hF
  have HS0 := Wor.start w a b
  rw [ha, hb] at HS0
  have HS := hidden HS0
  clear HS0
  unfold letV
  go_enter Tryz.func88, Tryz.ntmps88
  go_wp2
  refine wp_region_stepsL 16 (typ (Lth w a b)) (Wor w a b) (by kernel_rfl) (by kernel_rfl) (by kernel_rfl) (by kernel_rfl) (by kernel_rfl) (by kernel_rfl) ?mono ?start ?step ?last
  case mono =>
    refine typ_mono ?_
    simp only [Lth, List.forall_mem_cons]
    repeat' (first | exact is_mono _ | (intro p hp; cases hp; done) | exact (fun v w w' h _ => h) | refine And.intro ?_ ?_)
    · rintro v w w' ⟨ad, rfl, h⟩ hb
      exact ⟨ad, rfl, sets_mono h hb⟩
    · rintro v w w' ⟨B, rfl, hB, h⟩ hb
      exact ⟨B, rfl, hB, h.below hb⟩
  case start => exact Wor.below HS.out (Below.refl _ _).drew
  case last =>
    intro x w1 hs hv hW
    have h2 : x.tmps.getD 2 undef = .pointer (some ⟨w.heap.size, 0, none⟩) := hs.slot 2 (by kernel_rfl)
    have h3 : x.tmps.getD 3 undef = .pointer (some ⟨w.heap.size + 1, 0, none⟩) := hs.slot 3 (by kernel_rfl)
    have h4 : x.tmps.getD 4 undef = .pointer (some ⟨w.heap.size + 2, 0, none⟩) := hs.slot 4 (by kernel_rfl)
    have h29 : x.tmps.getD 29 undef = (.agg #[.bool true, .bool (a.null && b.null), .int .u64 (word (a.first) 0), .int .u64 (word (a.first) 1), .int .u64 (word (a.first) 2), .int .u64 (word (a.first) 3), .int .u64 (word (fAny [a.used, b.used]) 0), .int .u64 (word (fAny [a.used, b.used]) 1), .int .u64 (word (fAny [a.used, b.used]) 2), .int .u64 (word (fAny [a.used, b.used]) 3)]) := hv 14 29 (by decide) (by kernel_rfl)
    obtain ⟨B, h5, hB, hl⟩ : ∃ B, x.tmps.getD 5 undef = .pointer (some ⟨B, 0, none⟩) ∧ w.heap.size + 3 ≤ B ∧ LetAt w1 B ⟨false, false, fNone, fNone⟩ := hv 15 5 (by decide) (by kernel_rfl)
    have hd := hs.defers
    have hsz : x.tmps.size = 40 := hs.size
    have HL := hidden hl
    have HW := hidden hW
    have HB := hidden hB
    refine wpOp_of_list rfl rfl ?_
    refine wpList_q (K := fun a' w' => a' = x ∧ Wor w a b w' ∧ LetAt w' B ⟨true, a.null && b.null, a.first, fAny [a.used, b.used]⟩) ?_ ?_
    · intro Q hQ
      obtain ⟨c0, c1, c2, c3, c4, c5, c6, c7, c8, c9⟩ := hl.cells
      have f0 := hl.frozen 0
      have f1 := hl.frozen 1
      have f2 := hl.frozen 2
      have f3 := hl.frozen 3
      have f4 := hl.frozen 4
      have f5 := hl.frozen 5
      have f6 := hl.frozen 6
      have f7 := hl.frozen 7
      have f8 := hl.frozen 8
      have f9 := hl.frozen 9
      have HQ := hidden hQ
      clear hl hs hv hW hB hQ
      go_wp2
      exact HQ.out _ _ ⟨rfl, HW.out.stored ⟨true, a.null && b.null, a.first, fAny [a.used, b.used]⟩ HB.out, LetAt.stored HL.out ⟨true, a.null && b.null, a.first, fAny [a.used, b.used]⟩⟩
    · clear hl hs hv hW hB HL HW
      rintro a' w2 ⟨rfl, hW, hL⟩
      obtain ⟨⟨c0, c1, c2, c3, c4, c5, c6, c7, c8, c9⟩, d0, d1, d2, d3, d4, d5, d6, d7, d8, d9⟩ := hW.cells
      have HW := hidden hW
      have HL := hidden hL
      have hF := HF0.out
      obtain ⟨tm, df⟩ := a'
      simp only at hsz h2 h3 h4 h5 hd
      have hz := arr40 hsz
      rw [h2, h3, h4, h5] at hz
      clear h2 h3 h4 h5 h29 hsz HS
      generalize tm.getD 0 undef = u0 at hz
      generalize tm.getD 1 undef = u1 at hz
      generalize tm.getD 6 undef = u6 at hz
      generalize tm.getD 7 undef = u7 at hz
      generalize tm.getD 8 undef = u8 at hz
      generalize tm.getD 9 undef = u9 at hz
      generalize tm.getD 10 undef = u10 at hz
      generalize tm.getD 11 undef = u11 at hz
      generalize tm.getD 12 undef = u12 at hz
      generalize tm.getD 13 undef = u13 at hz
      generalize tm.getD 14 undef = u14 at hz
      generalize tm.getD 15 undef = u15 at hz
      generalize tm.getD 16 undef = u16 at hz
      generalize tm.getD 17 undef = u17 at hz
      generalize tm.getD 18 undef = u18 at hz
      generalize tm.getD 19 undef = u19 at hz
      generalize tm.getD 20 undef = u20 at hz
      generalize tm.getD 21 undef = u21 at hz
      generalize tm.getD 22 undef = u22 at hz
      generalize tm.getD 23 undef = u23 at hz
      generalize tm.getD 24 undef = u24 at hz
      generalize tm.getD 25 undef = u25 at hz
      generalize tm.getD 26 undef = u26 at hz
      generalize tm.getD 27 undef = u27 at hz
      generalize tm.getD 28 undef = u28 at hz
      generalize tm.getD 29 undef = u29 at hz
      generalize tm.getD 30 undef = u30 at hz
      generalize tm.getD 31 undef = u31 at hz
      generalize tm.getD 32 undef = u32 at hz
      generalize tm.getD 33 undef = u33 at hz
      generalize tm.getD 34 undef = u34 at hz
      generalize tm.getD 35 undef = u35 at hz
      generalize tm.getD 36 undef = u36 at hz
      generalize tm.getD 37 undef = u37 at hz
      generalize tm.getD 38 undef = u38 at hz
      generalize tm.getD 39 undef = u39 at hz
      subst hz hd
      rcases Bool.eq_false_or_eq_true a.null with hn | hn
      · have c1' : w2.cell? ⟨w.heap.size, 1, none⟩ = some (.bool true) := by rw [← hn]; exact c1
        rw [if_pos hn] at hF
        have HE := hidden hF
        have hne : w.heap.size + 2 ≠ B := by have := HB.out; omega
        have hne' : B ≠ w.heap.size + 2 := fun e => hne e.symm
        have HN := hidden hn
        clear c1 hL hW hF hn HF0
        go_wp2_with fail
        refine (all_calls _ 2 2 [a.first, b.first] _ (by omega) (sets_two w2 _ _ _)).mono ?_
        rintro e w3 ⟨rfl, hb3⟩
        have hW3 := Wor.below (Wor.below HW.out ((Below.refl _ _).alloc (Nat.le_refl _) _)) hb3
        have hL3 := LetAt.below (LetAt.below HL.out ((Below.refl _ _).alloc (Nat.le_refl _) _)) hb3
        have HW3 := hidden hW3
        have HL3 := hidden hL3
        obtain ⟨l0, hO⟩ := hW3.out
        have HO := hidden hO
        obtain ⟨g0, g1, g2, g3, g4, g5, g6, g7, g8, g9⟩ := hL3.cells
        obtain ⟨o0, o1, o2, o3, o4, o5, o6, o7, o8, o9⟩ := hO.cells
        have fg0 := hL3.frozen 0
        have fg1 := hL3.frozen 1
        have fg2 := hL3.frozen 2
        have fg3 := hL3.frozen 3
        have fg4 := hL3.frozen 4
        have fg5 := hL3.frozen 5
        have fg6 := hL3.frozen 6
        have fg7 := hL3.frozen 7
        have fg8 := hL3.frozen 8
        have fg9 := hL3.frozen 9
        have fo0 := hO.frozen 0
        have fo1 := hO.frozen 1
        have fo2 := hO.frozen 2
        have fo3 := hO.frozen 3
        have fo4 := hO.frozen 4
        have fo5 := hO.frozen 5
        have fo6 := hO.frozen 6
        have fo7 := hO.frozen 7
        have fo8 := hO.frozen 8
        have fo9 := hO.frozen 9
        clear hW3 hL3 hO
        simp only at g0 g1 g2 g3 g4 g5 g6 g7 g8 g9
        go_wp2
        have hle : w.heap.size ≤ B := by have := HB.out; omega
        have b4 := ((((Below.refl B w3).setCell (p := ⟨B, 2, none⟩) (Nat.le_refl _) (.int .u64 (word (fAny [a.first, b.first]) 0))).setCell (p := ⟨B, 3, none⟩) (Nat.le_refl _) (.int .u64 (word (fAny [a.first, b.first]) 1))).setCell (p := ⟨B, 4, none⟩) (Nat.le_refl _) (.int .u64 (word (fAny [a.first, b.first]) 2))).setCell (p := ⟨B, 5, none⟩) (Nat.le_refl _) (.int .u64 (word (fAny [a.first, b.first]) 3))
        exact ret_let (l := ⟨true, a.null && b.null, fAny [a.first, b.first], fAny [a.used, b.used]⟩) Tryz.results88 rfl rfl (LetAt.stored (HO.out.other (b4.block (w.heap.size + 2) (by have := HB.out; omega))) ⟨true, a.null && b.null, fAny [a.first, b.first], fAny [a.used, b.used]⟩)
          ⟨by rw [HE.out]; rfl, let_frame ((((HW3.out.frame.setCell (p := ⟨B, 2, none⟩) hle _).setCell (p := ⟨B, 3, none⟩) hle _).setCell (p := ⟨B, 4, none⟩) hle _).setCell (p := ⟨B, 5, none⟩) hle _) (Nat.le_add_right _ _) ⟨true, a.null && b.null, fAny [a.first, b.first], fAny [a.used, b.used]⟩⟩
      · have c1' : w2.cell? ⟨w.heap.size, 1, none⟩ = some (.bool false) := by rw [← hn]; exact c1
        rw [if_neg (by rw [hn]; exact Bool.false_ne_true)] at hF
        have HE := hidden hF
        have HN := hidden hn
        obtain ⟨l0, hO⟩ := hW.out
        have HO := hidden hO
        obtain ⟨g0, g1, g2, g3, g4, g5, g6, g7, g8, g9⟩ := hL.cells
        obtain ⟨o0, o1, o2, o3, o4, o5, o6, o7, o8, o9⟩ := hO.cells
        have fg0 := hL.frozen 0
        have fg1 := hL.frozen 1
        have fg2 := hL.frozen 2
        have fg3 := hL.frozen 3
        have fg4 := hL.frozen 4
        have fg5 := hL.frozen 5
        have fg6 := hL.frozen 6
        have fg7 := hL.frozen 7
        have fg8 := hL.frozen 8
        have fg9 := hL.frozen 9
        have fo0 := hO.frozen 0
        have fo1 := hO.frozen 1
        have fo2 := hO.frozen 2
        have fo3 := hO.frozen 3
        have fo4 := hO.frozen 4
        have fo5 := hO.frozen 5
        have fo6 := hO.frozen 6
        have fo7 := hO.frozen 7
        have fo8 := hO.frozen 8
        have fo9 := hO.frozen 9
        clear c1 hL hW hF hn hO HF0
        simp only at g0 g1 g2 g3 g4 g5 g6 g7 g8 g9
        go_wp2
        exact ret_let (l := ⟨true, a.null && b.null, a.first, fAny [a.used, b.used]⟩) Tryz.results88 rfl rfl (LetAt.stored HO.out ⟨true, a.null && b.null, a.first, fAny [a.used, b.used]⟩) ⟨by rw [HE.out]; rfl, let_frame HW.out.frame (Nat.le_add_right _ _) ⟨true, a.null && b.null, a.first, fAny [a.used, b.used]⟩⟩
  case step =>
    refine ⟨?_, ?_, ?_, ?_, ?_, ?_, ?_, ?_, ?_, ?_, ?_, ?_, ?_, ?_, ?_, ?_, trivial⟩
    · change StepOk _ _ _ _ _ _ _
      intro ρ w1 hF hW
      have HW := hidden hW
      clear hW
      have e2 : ρ 2 = .pointer (some ⟨w.heap.size, 0, none⟩) := hF 2 (by decide)
      clear hF
      unfold Does
      go_simp
      exact ⟨rfl, HW.out, Below.refl _ _⟩
    · change StepOk _ _ _ _ _ _ _
      intro ρ w1 hF hW
      have HW := hidden hW
      clear hW
      have e15 : ρ 15 = .pointer (some ⟨w.heap.size, 1, none⟩) := hF 15 (by decide)
      clear hF
      obtain ⟨⟨c0, c1, c2, c3, c4, c5, c6, c7, c8, c9⟩, d0, d1, d2, d3, d4, d5, d6, d7, d8, d9⟩ := HW.out.cells
      unfold Does
      go_simp
      exact ⟨rfl, HW.out, Below.refl _ _⟩
    · change StepOk _ _ _ _ _ _ _
      intro ρ w1 hF hW
      have HW := hidden hW
      clear hW
      have e16 : ρ 16 = .bool a.null := hF 16 (by decide)
      clear hF
      unfold Does
      go_simp
      exact ⟨rfl, HW.out, Below.refl _ _⟩
    · refine ⟨a.null, fun v w h => h, fun hgx => ?_, fun hgx w => ?_⟩
      rotate_left
      · intro hg2
        exact absurd hg2 hgx
      change StepOk _ _ _ _ _ _ _
      intro ρ w1 hF hW
      have HW := hidden hW
      clear hW
      have e3 : ρ 3 = .pointer (some ⟨w.heap.size + 1, 0, none⟩) := hF 3 (by decide)
      clear hF
      unfold Does
      go_simp
      exact ⟨fun _ => rfl, HW.out, Below.refl _ _⟩
    · refine ⟨a.null, fun v w h => h, fun hgx => ?_, fun hgx w => ?_⟩
      rotate_left
      · intro hg2
        exact absurd hg2 hgx
      change StepOk _ _ _ _ _ _ _
      intro ρ w1 hF hW
      have HW := hidden hW
      clear hW
      have hG18 := hF 18 (by decide)
      clear hF
      obtain ⟨⟨c0, c1, c2, c3, c4, c5, c6, c7, c8, c9⟩, d0, d1, d2, d3, d4, d5, d6, d7, d8, d9⟩ := HW.out.cells
      have e18 : ρ 18 = _ := hG18 hgx
      clear hG18
      unfold Does
      go_simp
      exact ⟨fun _ => rfl, HW.out, Below.refl _ _⟩
    · change StepOk _ _ _ _ _ _ _
      intro ρ w1 hF hW
      have HW := hidden hW
      clear hW
      have e17 : ρ 17 = .bool a.null := hF 17 (by decide)
      have hG19 := hF 19 (by decide)
      clear hF
      rcases Bool.eq_false_or_eq_true (a.null) with hx | hx
      · have ex : ρ 17 = .bool true := by rw [e17, hx]
        clear e17
        have ey := hG19 hx
        clear hG19
        have ey : ρ 19 = .bool (b.null) := ey
        unfold Does
        go_simp
        exact ⟨show Value.bool _ = Value.bool (a.null && b.null) from by rw [hx]; rfl, HW.out, Below.refl _ _⟩
      · have ex : ρ 17 = .bool false := by rw [e17, hx]
        clear e17
        skip
        clear hG19
        unfold Does
        go_simp
        exact ⟨show Value.bool _ = Value.bool (a.null && b.null) from by rw [hx]; rfl, HW.out, Below.refl _ _⟩
    · change StepOk _ _ _ _ _ _ _
      intro ρ w1 hF hW
      have HW := hidden hW
      clear hW
      have e2 : ρ 2 = .pointer (some ⟨w.heap.size, 0, none⟩) := hF 2 (by decide)
      clear hF
      unfold Does
      go_simp
      exact ⟨rfl, HW.out, Below.refl _ _⟩
    · change StepOk _ _ _ _ _ _ _
      intro ρ w1 hF hW
      have HW := hidden hW
      clear hW
      have e21 : ρ 21 = .pointer (some ⟨w.heap.size, 2, none⟩) := hF 21 (by decide)
      clear hF
      obtain ⟨⟨c0, c1, c2, c3, c4, c5, c6, c7, c8, c9⟩, d0, d1, d2, d3, d4, d5, d6, d7, d8, d9⟩ := HW.out.cells
      unfold Does
      go_simp
      exact ⟨rfl, HW.out, Below.refl _ _⟩
    · change StepOk _ _ _ _ _ _ _
      intro ρ w1 hF hW
      have HW := hidden hW
      clear hW
      have e2 : ρ 2 = .pointer (some ⟨w.heap.size, 0, none⟩) := hF 2 (by decide)
      clear hF
      unfold Does
      go_simp
      exact ⟨rfl, HW.out, Below.refl _ _⟩
    · change StepOk _ _ _ _ _ _ _
      intro ρ w1 hF hW
      have HW := hidden hW
      clear hW
      have e23 : ρ 23 = .pointer (some ⟨w.heap.size, 6, none⟩) := hF 23 (by decide)
      clear hF
      obtain ⟨⟨c0, c1, c2, c3, c4, c5, c6, c7, c8, c9⟩, d0, d1, d2, d3, d4, d5, d6, d7, d8, d9⟩ := HW.out.cells
      unfold Does
      go_simp
      exact ⟨rfl, HW.out, Below.refl _ _⟩
    · change StepOk _ _ _ _ _ _ _
      intro ρ w1 hF hW
      have HW := hidden hW
      clear hW
      have e3 : ρ 3 = .pointer (some ⟨w.heap.size + 1, 0, none⟩) := hF 3 (by decide)
      clear hF
      unfold Does
      go_simp
      exact ⟨rfl, HW.out, Below.refl _ _⟩
    · change StepOk _ _ _ _ _ _ _
      intro ρ w1 hF hW
      have HW := hidden hW
      clear hW
      have e25 : ρ 25 = .pointer (some ⟨w.heap.size + 1, 6, none⟩) := hF 25 (by decide)
      clear hF
      obtain ⟨⟨c0, c1, c2, c3, c4, c5, c6, c7, c8, c9⟩, d0, d1, d2, d3, d4, d5, d6, d7, d8, d9⟩ := HW.out.cells
      unfold Does
      go_simp
      exact ⟨rfl, HW.out, Below.refl _ _⟩
    · change StepOk _ _ _ _ _ _ _
      intro ρ w1 hF hW
      have HW := hidden hW
      clear hW
      have e24 : ρ 24 = (.agg #[.int .u64 (word (a.used) 0), .int .u64 (word (a.used) 1), .int .u64 (word (a.used) 2), .int .u64 (word (a.used) 3)]) := hF 24 (by decide)
      have e26 : ρ 26 = (.agg #[.int .u64 (word (b.used) 0), .int .u64 (word (b.used) 1), .int .u64 (word (b.used) 2), .int .u64 (word (b.used) 3)]) := hF 26 (by decide)
      clear hF
      unfold Does
      go_simp
      exact ⟨⟨_, rfl, sets_two w1 _ _ _⟩, Wor.below HW.out ((Below.refl _ _).alloc (Nat.le_refl _) _), (Below.refl _ _).alloc (Nat.le_refl _) _⟩
    · change StepOk _ _ _ _ _ _ _
      intro ρ w1 hF hW
      have HW := hidden hW
      clear hW
      obtain ⟨ad, e27, hs⟩ : ∃ ad, ρ 27 = .slice ad 2 2 ∧ Sets w1 ad 2 [a.used, b.used] := hF 27 (by decide)
      clear hF
      unfold Does
      go_simp
      refine (all_calls _ 2 2 [a.used, b.used] _ (by omega) hs).mono ?_
      rintro e w2 ⟨rfl, hb⟩
      exact ⟨_, rfl, rfl, Wor.below HW.out hb, hb⟩
    · change StepOk _ _ _ _ _ _ _
      intro ρ w1 hF hW
      have HW := hidden hW
      clear hW
      have e20 : ρ 20 = .bool (a.null && b.null) := hF 20 (by decide)
      have e22 : ρ 22 = (.agg #[.int .u64 (word (a.first) 0), .int .u64 (word (a.first) 1), .int .u64 (word (a.first) 2), .int .u64 (word (a.first) 3)]) := hF 22 (by decide)
      have e28 : ρ 28 = (.agg #[.int .u64 (word (fAny [a.used, b.used]) 0), .int .u64 (word (fAny [a.used, b.used]) 1), .int .u64 (word (fAny [a.used, b.used]) 2), .int .u64 (word (fAny [a.used, b.used]) 3)]) := hF 28 (by decide)
      clear hF
      unfold Does
      go_simp
      exact ⟨rfl, HW.out, Below.refl _ _⟩
    · change StepOk _ _ _ _ _ _ _
      intro ρ w1 hF hW
      have HW := hidden hW
      clear hW
      clear hF
      unfold Does
      go_simp
      have hsz := HW.out.out.elim fun _ h => h.lt
      exact ⟨⟨_, rfl, hsz, let_new w1⟩, Wor.below HW.out ((Below.refl _ _).alloc (Nat.le_refl _) _), (Below.refl _ _).alloc (Nat.le_refl _) _⟩
end Go.Proofs.YthkboclooplpeaaGreatDoor
