/- TxtStepUn, TxtStepAll, RxAsk, TxtShowL, put together. -/
import Derived.Test.YthiiinbkkjacbaaDoorRt14
import Derived.Test.YthiiinbkkjacbaaDoorRt15
import Derived.Test.YthiiinbkkjacbaaDoorRt08
/- Contract of showStep, kind by kind. -/
namespace Go.Proofs.YthiiinbkkjacbaaDoor
open Go.RowKit Go.Lib Go.Joins
attribute [local go_sem] evalR_tmp evalR_const evalR_global evalR_func

def LUn (w : World) (g n cap m : Nat) (ta : List UInt8) (ka k : Int) : List (Value → World → Prop) := [Is (.slice (some ⟨g, 0, none⟩) n cap), Is (.int .i64 m), Is (.pointer (some ⟨g, m * 2, none⟩)), Is (.agg #[.string (txt ta), .int .i64 ka]), KS2, Is (.string (txt (par (isTwo ka) ta))), Is (.pointer (some ⟨w.heap.size, 0, none⟩)), Is (.int .i64 k), Is (.string (txt [sgn k])), Is (.string (txt (par (isTwo ka) ta) ++ txt [sgn k])), Is (.string (txt (par (isTwo ka) ta) ++ txt [sgn k]))]
set_option maxHeartbeats 8000000 in
set_option maxRecDepth 100000 in
theorem stepUn {w : World} {base : Nat} {v : Value} {r : List Ex} {a : Ex} (k : Int) (h : RowS w base v (r ++ [a])) (hb : base ≤ w.heap.size) (hn : r.length ≤ 100000) (hla : (showE a).length ≤ 1000000) (hk : k = 5 ∨ k = 6 ∨ k = 7) (hs : Signs w) :
    Calls Tryd.prog 15 #[v, (kStp k).val] w (RetS base (r ++ [.un k a]) w) := by
  obtain ⟨i0, hi, hz0, hz1, hz2⟩ := info_parts infoShown
  have HI := hidden hi
  have HZ := hidden (And.intro hz0 (And.intro hz1 hz2))
  clear hi hz0 hz1 hz2
  obtain ⟨W0, hW0⟩ : ∃ W0, W0 = w.alloc (.cells #[.int .i64 k, .int .u64 0, .int .u64 0, .int .u64 0, .int .u64 0] 39) := ⟨_, rfl⟩
  have HB : Hid (Below w.heap.size w W0) := hidden (hW0 ▸ (Below.refl w.heap.size w).alloc (Nat.le_refl _) _)
  have hB : w.heap.size < W0.heap.size := by rw [hW0]; simp
  have c4 : W0.cell? ⟨w.heap.size, 0, none⟩ = some (.int .i64 k) := by rw [hW0]; exact cell_of_row _ _ 0 _ _ _ (heap_alloc_new w _)
  have HX := hidden c4
  have hR := h.below HB.out
  obtain ⟨g, cap, rfl, hg, ⟨c0, c1⟩, hnc, hcm, hrow⟩ := hR.one
  have HL := hidden (Nat.le_trans hb HB.out.size)
  have HL0 := hidden hb
  have HS := hidden hs
  have HK := hidden hk
  have q1 : (k == 1) = false := by simp; omega
  have q2 : (k == 2) = false := by simp; omega
  have q3 : (k == 3) = false := by simp; omega
  have q4 : (k == 4) = false := by simp; omega
  obtain ⟨m, hm⟩ : ∃ m, m = r.length := ⟨_, rfl⟩
  rw [← hm] at c0 c1 hnc hrow
  have HROW := hidden hrow
  obtain ⟨n, hn2⟩ : ∃ n, n = m + 1 := ⟨_, rfl⟩
  have hv : r.length + 1 = n := by omega
  rw [hv]
  rw [← hn2] at hnc
  unfold maxLen at hcm
  have K3 := hidden (show m + 1 ≤ maxLen by unfold maxLen; omega)
  have K4 := hidden (show (m + 1) * 24 ≤ 140737488355328 by omega)
  have HN := hidden hm
  have hmn : m < n := by omega
  have hmc : m ≤ cap := by omega
  have hsub : IntKind.i64.wrap ((n : Int) - 1) = m := by rw [IntKind.wrap_i64]; omega
  obtain ⟨te, hte⟩ : ∃ te, te = showE (.un k a) := ⟨_, rfl⟩
  have HTE := hidden hte
  simp only [showE] at hte
  generalize showE a = ta at *
  generalize a.kind = ka at *
  have hla : ta.length ≤ 1000000000 := by omega
  have HT5 := hidden (show txt (par (isTwo ka) ta) ++ txt [sgn k] = txt te by rw [hte, txt_add])
  have y0 := par_len (isTwo ka) ta
  have z1 : ¬ 9223372036854775807 < (txt (par (isTwo ka) ta)).size + (txt [sgn k]).size := by rw [txt_size, txt_size]; simp only [List.length_cons, List.length_nil]; omega
  have z2 : ¬ 9223372036854775807 < (txt (par (isTwo ka) ta)).size + 1 := by rw [txt_size]; omega
  clear y0
  have HW0 := hidden hW0
  clear h hn2 hn hrow hm hv hte hW0 hb hR hk hs
  unfold Stp.val kStp
  go_enter Tryd.func15, Tryd.ntmps15
  go_wp2
  rw [← HW0.out]
  refine wp_region_steps (typ (LUn w g n cap m ta ka k)) (fun W => Below W0.heap.size W0 W) (by kernel_rfl) (by kernel_rfl) (by kernel_rfl) (by kernel_rfl) ?mono ?start [] (by kernel_rfl) ?guards ?step ?fin
  case mono =>
    refine typ_mono ?_
    simp only [LUn, List.forall_mem_cons]
    repeat' (first | exact is_mono _ | exact ks1_mono | exact ks2_mono | (intro p hp; cases hp; done) | refine And.intro ?_ ?_)
  case start => exact (Below.refl _ _).drew
  case guards =>
    intro g hg v w h
    simp at hg
  case step =>
    refine ⟨?_, ?_, ?_, ?_, ?_, ?_, ?_, ?_, ?_, ?_, ?_, trivial⟩
    · intro ρ w1 hF hW
      have HW := hidden hW
      clear hW
      have e0 : ρ 0 = .slice (some ⟨g, 0, none⟩) n cap := hF 0 (by decide)
      clear hF
      unfold Does
      go_simp
      exact ⟨rfl, HW.out, Below.refl _ _⟩
    · intro ρ w1 hF hW
      have HW := hidden hW
      clear hW
      have e6 : ρ 6 = .int .i64 m := hF 6 (by decide)
      clear hF
      unfold Does
      go_simp
      exact ⟨rfl, HW.out, Below.refl _ _⟩
    · intro ρ w1 hF hW
      have HW := hidden hW
      clear hW
      have e13 : ρ 13 = .slice (some ⟨g, 0, none⟩) n cap := hF 13 (by decide)
      have e14 : ρ 14 = .int .i64 m := hF 14 (by decide)
      clear hF
      unfold Does
      go_simp
      exact ⟨rfl, HW.out, Below.refl _ _⟩
    · intro ρ w1 hF hW
      have HW := hidden hW
      clear hW
      have e15 : ρ 15 = .pointer (some ⟨g, m * 2, none⟩) := hF 15 (by decide)
      clear hF
      have y0 := (HW.out.cell (p := ⟨g, m * 2, none⟩) hg).trans c0
      have y1 := (HW.out.cell (p := ⟨g, m * 2 + 1, none⟩) hg).trans c1
      unfold Does
      go_simp
      exact ⟨rfl, HW.out, Below.refl _ _⟩
    · intro ρ w1 hF hW
      have HW := hidden hW
      clear hW
      clear hF
      unfold Does
      go_simp
      exact ⟨ks2_new w1, below_after HW.out ((Below.refl _ _).alloc (Nat.le_refl _) _), (Below.refl _ _).alloc (Nat.le_refl _) _⟩
    · intro ρ w1 hF hW
      have HW := hidden hW
      clear hW
      have e16 : ρ 16 = .agg #[.string (txt ta), .int .i64 ka] := hF 16 (by decide)
      have e17 : KS2 (ρ 17) w1 := hF 17 (by decide)
      clear hF
      unfold Does
      go_simp
      refine (within_two e17 ta ka hla).mono ?_
      rintro e w2 ⟨rfl, hb⟩
      exact ⟨_, rfl, rfl, below_after HW.out hb, hb⟩
    · intro ρ w1 hF hW
      have HW := hidden hW
      clear hW
      have e3 : ρ 3 = .pointer (some ⟨w.heap.size, 0, none⟩) := hF 3 (by decide)
      clear hF
      unfold Does
      go_simp
      exact ⟨rfl, HW.out, Below.refl _ _⟩
    · intro ρ w1 hF hW
      have HW := hidden hW
      clear hW
      have e19 : ρ 19 = .pointer (some ⟨w.heap.size, 0, none⟩) := hF 19 (by decide)
      clear hF
      have y0 := (HW.out.cell (p := ⟨w.heap.size, 0, none⟩) hB).trans c4
      unfold Does
      go_simp
      exact ⟨rfl, HW.out, Below.refl _ _⟩
    · intro ρ w1 hF hW
      have HW := hidden hW
      clear hW
      have e20 : ρ 20 = .int .i64 k := hF 20 (by decide)
      clear hF
      unfold Does
      go_simp
      refine (signOf_calls k _ (HS.out.below (below_after HB.out HW.out)) HK.out).mono ?_
      rintro e w2 ⟨rfl, hb⟩
      exact ⟨_, rfl, rfl, below_after HW.out hb, hb⟩
    · intro ρ w1 hF hW
      have HW := hidden hW
      clear hW
      have e18 : ρ 18 = .string (txt (par (isTwo ka) ta)) := hF 18 (by decide)
      have e21 : ρ 21 = .string (txt [sgn k]) := hF 21 (by decide)
      clear hF
      unfold Does
      go_simp
      exact ⟨rfl, HW.out, Below.refl _ _⟩
    · intro ρ w1 hF hW
      have HW := hidden hW
      clear hW
      have e22 : ρ 22 = .string (txt (par (isTwo ka) ta) ++ txt [sgn k]) := hF 22 (by decide)
      clear hF
      unfold Does
      go_simp
      exact ⟨rfl, HW.out, Below.refl _ _⟩
  case fin =>
    intro a W1 hs hv hW
    rename_i Q' K hK
    refine hK a W1 ?_
    have hz : a.tmps.size = 75 := hs.size
    have s0 : a.tmps.getD 0 undef = .slice (some ⟨g, 0, none⟩) n cap := hs.slot 0 (by kernel_rfl)
    have s3 : a.tmps.getD 3 undef = .pointer (some ⟨w.heap.size, 0, none⟩) := hs.slot 3 (by kernel_rfl)
    have s6 : a.tmps.getD 6 undef = .int .i64 m := hs.slot 6 (by kernel_rfl)
    have s5 : a.tmps.getD 5 undef = .string (txt (par (isTwo ka) ta) ++ txt [sgn k]) := hv 10 5 (by kernel_rfl)
    have hd : a.defers = [] := hs.defers
    have HW1 := hidden hW
    clear hs hv hK hW
    obtain ⟨tm, df⟩ := a
    simp only at hz s0 s3 s5 s6 hd
    have hz := arr75 hz
    rw [s0, s3, s5, s6] at hz
    clear s0 s3 s5 s6
    generalize tm.getD 1 undef = u1 at hz
    generalize tm.getD 2 undef = u2 at hz
    generalize tm.getD 4 undef = u4 at hz
    generalize tm.getD 7 undef = u7 at hz
    generalize tm.getD 8 undef = u8 at hz
    generalize tm.getD 9 undef = u9 at hz
    generalize tm.getD 10 undef = u10 at hz
    generalize tm.getD 11 undef = u11 at hz
    generalize tm.getD 12 undef = u12 at hz
    generalize tm.getD 13 undef = u13 at hz
    generalize tm.getD 14 undef = u14 at hz
    generalize tm.getD 15 undef = u15 at hz
    generalize tm.getD 16 undef = u16 at hz
    generalize tm.getD 17 undef = u17 at hz
    generalize tm.getD 18 undef = u18 at hz
    generalize tm.getD 19 undef = u19 at hz
    generalize tm.getD 20 undef = u20 at hz
    generalize tm.getD 21 undef = u21 at hz
    generalize tm.getD 22 undef = u22 at hz
    generalize tm.getD 23 undef = u23 at hz
    generalize tm.getD 24 undef = u24 at hz
    generalize tm.getD 25 undef = u25 at hz
    generalize tm.getD 26 undef = u26 at hz
    generalize tm.getD 27 undef = u27 at hz
    generalize tm.getD 28 undef = u28 at hz
    generalize tm.getD 29 undef = u29 at hz
    generalize tm.getD 30 undef = u30 at hz
    generalize tm.getD 31 undef = u31 at hz
    generalize tm.getD 32 undef = u32 at hz
    generalize tm.getD 33 undef = u33 at hz
    generalize tm.getD 34 undef = u34 at hz
    generalize tm.getD 35 undef = u35 at hz
    generalize tm.getD 36 undef = u36 at hz
    generalize tm.getD 37 undef = u37 at hz
    generalize tm.getD 38 undef = u38 at hz
    generalize tm.getD 39 undef = u39 at hz
    generalize tm.getD 40 undef = u40 at hz
    generalize tm.getD 41 undef = u41 at hz
    generalize tm.getD 42 undef = u42 at hz
    generalize tm.getD 43 undef = u43 at hz
    generalize tm.getD 44 undef = u44 at hz
    generalize tm.getD 45 undef = u45 at hz
    generalize tm.getD 46 undef = u46 at hz
    generalize tm.getD 47 undef = u47 at hz
    generalize tm.getD 48 undef = u48 at hz
    generalize tm.getD 49 undef = u49 at hz
    generalize tm.getD 50 undef = u50 at hz
    generalize tm.getD 51 undef = u51 at hz
    generalize tm.getD 52 undef = u52 at hz
    generalize tm.getD 53 undef = u53 at hz
    generalize tm.getD 54 undef = u54 at hz
    generalize tm.getD 55 undef = u55 at hz
    generalize tm.getD 56 undef = u56 at hz
    generalize tm.getD 57 undef = u57 at hz
    generalize tm.getD 58 undef = u58 at hz
    generalize tm.getD 59 undef = u59 at hz
    generalize tm.getD 60 undef = u60 at hz
    generalize tm.getD 61 undef = u61 at hz
    generalize tm.getD 62 undef = u62 at hz
    generalize tm.getD 63 undef = u63 at hz
    generalize tm.getD 64 undef = u64 at hz
    generalize tm.getD 65 undef = u65 at hz
    generalize tm.getD 66 undef = u66 at hz
    generalize tm.getD 67 undef = u67 at hz
    generalize tm.getD 68 undef = u68 at hz
    generalize tm.getD 69 undef = u69 at hz
    generalize tm.getD 70 undef = u70 at hz
    generalize tm.getD 71 undef = u71 at hz
    generalize tm.getD 72 undef = u72 at hz
    generalize tm.getD 73 undef = u73 at hz
    generalize tm.getD 74 undef = u74 at hz
    subst hz hd
    rw [HT5.out]
    have c4' : W1.cell? ⟨w.heap.size, 0, none⟩ = some (.int .i64 k) := (HW1.out.cell (p := ⟨w.heap.size, 0, none⟩) hB).trans HX.out
    have hlt := Nat.lt_of_lt_of_le hB HW1.out.size
    have HT := hidden (row_tail (HROW.out.below HW1.out) HN.out (Nat.le_trans HL.out HW1.out.size))
    have HW2 := hidden ((HB.out.mono HL0.out).trans (HW1.out.mono HL.out))
    clear c0 c1 c4
    go_wp2
    go_region_law (refine step_append_lies _ rfl _ _ 40 rfl base 43 i0 (.agg #[.string ⟨#[]⟩, .int .i64 0]) 2 24 Tryd.underlying40 HI.out HZ.out.1 HZ.out.2.1 HZ.out.2.2 rfl (by decide) _ _ (shCells r) rfl (HT.out.1 _ (by go_grown)) ⟨W1.heap.size, 0, none⟩ 1 1 [.string (txt te), .int .i64 k] rfl rfl (news_new (by simp)) (fun u hu => show_cells1 hu) (by decide) K3.out K4.out (HT.out.2.2 _ (by go_grown)) _ rfl ?_; intro g5 cap5 w5 hown5 hgrow5 hlie5 hlt5; have HF := hidden hown5; have HG := hidden (HT.out.2.1 _ _ (by go_grown) hgrow5); clear hown5 hgrow5 hlie5 hlt5)
    all_goals
      go_wp2
      go_ret
      exact ⟨_, rfl, RowS.more2 HF.out HN.out HTE.out rfl, HW2.out.trans HG.out⟩
end Go.Proofs.YthiiinbkkjacbaaDoor

/- Contract of showStep. -/
namespace Go.Proofs.YthiiinbkkjacbaaDoor
open Go.RowKit Go.Lib Go.Joins

theorem step_calls {w : World} {base : Nat} {v : Value} {es es' : List Ex} {s : Stp} (h : RowS w base v es) (hb : base ≤ w.heap.size) (hN : Next s es es') (hn : es.length ≤ 100000) (hl : ∀ e ∈ es, (showE e).length ≤ 1000000) (ht : Tab w) (hs : Signs w) :
    Calls Tryd.prog 15 #[v, s.val] w (RetS base es' w) := by
  cases hN with
  | set _ h1 e =>
    have := stepSet (bitsE s) h hb hn ht
    rw [← e] at this
    exact this
  | emp _ e =>
    subst e
    exact stepEmp h hb hn
  | cat r a b e =>
    subst e
    exact stepCat h hb (by simp only [List.length_append] at hn; omega) (hl a (by simp)) (hl b (by simp))
  | alt r a b e =>
    subst e
    exact stepAlt h hb (by simp only [List.length_append] at hn; omega) (hl a (by simp)) (hl b (by simp))
  | un r a e hk =>
    have := stepUn s.k h hb (by simp only [List.length_append] at hn; omega) (hl a (by simp)) hk hs
    rw [← e] at this
    exact this
end Go.Proofs.YthiiinbkkjacbaaDoor

/- Contracts of what is asked of steps: operands, measure, Check, High, Begin, slices.Equal at steps, Same. -/
namespace Go.Proofs.YthiiinbkkjacbaaDoor
open Go.RowKit

set_option maxRecDepth 100000 in
theorem operands_calls (k : Int) (w : World) : Calls Tryd.prog 64 #[.int .i64 k] w fun e w' => e = .returned (.int .i64 (kOps k)) ∧ w = w' := by
  have hk : k = 1 ∨ k = 2 ∨ k = 3 ∨ k = 4 ∨ k = 5 ∨ k = 6 ∨ k = 7 ∨ (¬ k = 1 ∧ ¬ k = 2 ∧ ¬ k = 3 ∧ ¬ k = 4 ∧ ¬ k = 5 ∧ ¬ k = 6 ∧ ¬ k = 7) := by omega
  rcases hk with rfl | rfl | rfl | rfl | rfl | rfl | rfl | ⟨h1, h2, h3, h4, h5, h6, h7⟩
  case inr.inr.inr.inr.inr.inr.inr =>
    have e : kOps k = -1 := by unfold kOps; rw [if_neg (by omega), if_neg (by omega), if_neg (by omega)]
    have HE := hidden e
    clear e
    have q1 : (k == 1) = false := by simp [h1]
    have q2 : (k == 2) = false := by simp [h2]
    have q3 : (k == 3) = false := by simp [h3]
    have q4 : (k == 4) = false := by simp [h4]
    have q5 : (k == 5) = false := by simp [h5]
    have q6 : (k == 6) = false := by simp [h6]
    have q7 : (k == 7) = false := by simp [h7]
    clear h1 h2 h3 h4 h5 h6 h7
    go_enter Tryd.func64, Tryd.ntmps64
    go_wp2
    go_ret
    exact ⟨ret_i HE.out.symm, rfl⟩
  all_goals
    go_enter Tryd.func64, Tryd.ntmps64
    go_wp2
    go_ret
    exact ⟨ret_i (by decide), rfl⟩

/-! ### what is wrong with steps, and how many parts they make -/
theorem meas_step {L : List Stp} {k : Nat} {p h : Int} {r : Int × Int} (e : r = measGo (L.drop k) p h) (hk : k < L.length) :
    (¬ (L.getD k default).good → r = (0, 1)) ∧ ((L.getD k default).good → p < kOps (L.getD k default).k → r = (0, 3)) ∧ ((L.getD k default).good → kOps (L.getD k default).k ≤ p → r = measGo (L.drop (k + 1)) (p + (1 - kOps (L.getD k default).k)) (max h (p + (1 - kOps (L.getD k default).k)))) := by
  rw [List.drop_eq_getElem_cons hk, measGo] at e
  have e1 : L.getD k default = L[k] := by rw [List.getD_eq_getElem?_getD, List.getElem?_eq_getElem hk]; rfl
  rw [e1]
  refine ⟨fun h1 => ?_, fun h1 h2 => ?_, fun h1 h2 => ?_⟩
  · rw [if_neg h1] at e; exact e
  · rw [if_pos h1, if_pos h2] at e; exact e
  · rw [if_pos h1, if_neg (by omega)] at e; exact e
theorem meas_end {L : List Stp} {k : Nat} {p h : Int} {r : Int × Int} (e : r = measGo (L.drop k) p h) (hk : L.length ≤ k) : r = if p = 1 then (h, 0) else (0, 3) := by
  rw [List.drop_eq_nil_of_le hk] at e
  exact e
theorem ret_two_i {a b : Int} {r : Int × Int} (h : r = (a, b)) : Ending.returned (.tuple #[.int .i64 a, .int .i64 b]) = .returned (.tuple #[.int .i64 r.1, .int .i64 r.2]) := by rw [h]
set_option maxHeartbeats 4000000 in
set_option maxRecDepth 100000 in
theorem measure_calls {C : Nat → Prop} (a : Option Addr) (n cap : Nat) (L : List Stp) (w : World) (_ : n ≤ cap) (_ : cap ≤ maxLen) (hS : Rxs C w a n L) (hC : ∀ b, C b → b < w.heap.size) :
    Calls Tryd.prog 31 #[.slice a n cap] w fun e w' => e = .returned (.tuple #[.int .i64 (measV L).1, .int .i64 (measV L).2]) ∧ Below w.heap.size w w' := by
  by_cases hn : 512 < n
  · have e : measV L = (0, 4) := by unfold measV; rw [if_pos (by rw [hS.1]; exact hn)]
    have HE := hidden e
    clear e hS
    go_enter Tryd.func31, Tryd.ntmps31
    go_wp2
    go_ret2
    exact ⟨ret_two_i HE.out, Below.refl _ _⟩
  · have hM : measV L = measGo (L.drop 0) 0 0 := by
      unfold measV
      rw [if_neg (by rw [hS.1]; exact hn), List.drop_zero]
    obtain ⟨r, hr⟩ : ∃ r, r = measV L := ⟨_, rfl⟩
    rw [← hr] at hM ⊢
    have HM := hidden hM
    have HS := hidden hS
    have HC := hidden hC
    clear hM hS hC hr
    go_enter Tryd.func31, Tryd.ntmps31
    go_wp2
    go_loopw [4, 5, 14] (fun p h i wr => ∃ (k : Nat) (P H : Int), k ≤ n ∧ i = .int .i64 k ∧ p = .int .i64 P ∧ h = .int .i64 H ∧ 0 ≤ P ∧ P ≤ k ∧ 0 ≤ H ∧ H ≤ k ∧ r = measGo (L.drop k) P H ∧ Below w.heap.size w wr) (fun _ _ i _ => n - (intOf i).toNat)
    case atStart => exact ⟨0, 0, 0, by omega, rfl, rfl, rfl, by omega, by omega, by omega, by omega, HM.out, Below.refl _ _⟩
    case round =>
      obtain ⟨k, P, H, hk, rfl, rfl, rfl, hP0, hPk, hH0, hHk, he, hb⟩ := hrel
      have HE := hidden he
      have HB := hidden hb
      clear he hb
      by_cases hlt : k < n
      · obtain ⟨b, off, rfl, hCb, hc⟩ := HS.out.2 (by omega)
        obtain ⟨c0, c1, c2, c3, c4⟩ := (hc k hlt).kept (w' := wr) (HB.out.block b (HC.out b hCb))
        have H1 := hidden (meas_step HE.out (by rw [HS.out.1]; exact hlt))
        obtain ⟨x, hx⟩ : ∃ x, x = L.getD k default := ⟨_, rfl⟩
        rw [← hx] at c0 c1 c2 c3 c4 H1
        have hO := kOps_range x.k
        have HK := hidden (operands_calls x.k)
        clear hc hCb hx
        obtain ⟨K, x1, x2, x3, x4⟩ := x
        simp only at c0 c1 c2 c3 c4 hO HK
        have hg : ((⟨K, x1, x2, x3, x4⟩ : Stp).good ↔ 0 ≤ kOps K ∧ (K = 1 ∨ (x1 = 0 ∧ x2 = 0 ∧ x3 = 0 ∧ x4 = 0))) := Iff.rfl
        have HG := hidden hg
        have hq := fun w => eq_four w x1 x2 x3 x4 0 0 0 0
        simp only [Bool.and_true] at hq
        clear hg
        have H2 : Hid ((⟨K, x1, x2, x3, x4⟩ : Stp).k = K) := hidden rfl
        rw [H2.out] at H1
        clear H2
        generalize kOps K = o at *
        by_cases q0 : o < 0
        · have hres := hidden (H1.out.1 (fun h => by have := (HG.out.1 h).1; omega))
          clear H1
          go_wp2_with fail
          refine (HK.out _).mono ?_
          rintro e w1 ⟨rfl, rfl⟩
          go_wp2
          go_ret2
          exact ⟨ret_two_i hres.out, by have hq := HB.out; go_grown; exact hq.size⟩
        · have hd0 : decide (o < 0) = false := decide_eq_false q0
          have hcase : (K = 1) ∨ (K ≠ 1 ∧ x1 = 0 ∧ x2 = 0 ∧ x3 = 0 ∧ x4 = 0) ∨ (K ≠ 1 ∧ ¬ (x1 = 0 ∧ x2 = 0 ∧ x3 = 0 ∧ x4 = 0)) := by
            by_cases h1 : K = 1
            · exact .inl h1
            · by_cases h2 : x1 = 0 ∧ x2 = 0 ∧ x3 = 0 ∧ x4 = 0
              · exact .inr (.inl ⟨h1, h2⟩)
              · exact .inr (.inr ⟨h1, h2⟩)
          rcases hcase with h1 | ⟨h1, h2, h3, h4, h5⟩ | ⟨h1, h2⟩
          case' inl =>
            have hgood := HG.out.2 ⟨by omega, .inl h1⟩
            have q1 : (K == 1) = true := by simp [h1]
            have q2 : (K != 1) = false := by simp [h1]
            clear hq
          case' inr.inl =>
            have hgood := HG.out.2 ⟨by omega, .inr ⟨h2, h3, h4, h5⟩⟩
            have q1 : (K == 1) = false := by simp [h1]
            have q2 : (K != 1) = true := by simp [h1]
            have q3 : (x1 == 0 && (x2 == 0 && (x3 == 0 && x4 == 0))) = true := by simp [h2, h3, h4, h5]
            rw [q3] at hq
            clear q3 h2 h3 h4 h5
          case inr.inr =>
            have hres := hidden (H1.out.1 (fun h => (HG.out.1 h).2.elim h1 h2))
            have q1 : (K == 1) = false := by simp [h1]
            have q2 : (K != 1) = true := by simp [h1]
            have q3 : (x1 == 0 && (x2 == 0 && (x3 == 0 && x4 == 0))) = false := by
              rw [Bool.eq_false_iff]
              intro h
              simp at h
              exact h2 ⟨h.1, h.2.1, h.2.2.1, h.2.2.2⟩
            rw [q3] at hq
            clear q3 h2 H1
            go_wp2_with fail
            refine (HK.out _).mono ?_
            rintro e w1 ⟨rfl, rfl⟩
            go_wp2
            go_ret2
            exact ⟨ret_two_i hres.out, by have hq := HB.out; go_grown; exact hq.size⟩
          all_goals
            have H2 := hidden (H1.out.2.1 hgood)
            have H3 := hidden (H1.out.2.2 hgood)
            clear H1 HG hgood h1
            by_cases q5 : P < o
            · have hres := hidden (H2.out q5)
              clear H2 H3
              go_wp2_with fail
              refine (HK.out _).mono ?_
              rintro e w1 ⟨rfl, rfl⟩
              go_wp2
              go_ret2
              exact ⟨ret_two_i hres.out, by have hq := HB.out; go_grown; exact hq.size⟩
            · have hres := hidden (H3.out (by omega))
              have hd5 : decide (P < o) = false := decide_eq_false q5
              clear H2 H3
              go_wp2_with fail
              refine (HK.out _).mono ?_
              rintro e w1 ⟨rfl, rfl⟩
              go_wp2
              go_roundw
              case rel => exact ⟨k + 1, P + (1 - o), max H (P + (1 - o)), by omega, by go_num, by go_num, by go_num, by omega, by omega, by omega, by omega, hres.out, by have hq := HB.out; go_grown; exact hq.size⟩
              case measure => simp [intOf]; omega
      · have hres := hidden (meas_end HE.out (by rw [HS.out.1]; omega))
        by_cases q : P = 1
        · subst q
          rw [if_pos rfl] at hres
          go_wp2
          go_ret2
          exact ⟨ret_two_i hres.out, HB.out⟩
        · rw [if_neg q] at hres
          have q' : (P == 1) = false := by simp [q]
          go_wp2
          go_ret2
          exact ⟨ret_two_i hres.out, HB.out⟩
theorem check_rx {C : Nat → Prop} (a : Option Addr) (n cap : Nat) (L : List Stp) (w : World) (hl : n ≤ cap) (hcap : cap ≤ maxLen) (hS : Rxs C w a n L) (hC : ∀ b, C b → b < w.heap.size) :
    Calls Tryd.prog 14 #[.slice a n cap] w fun e w' => e = .returned (.int .i64 (measV L).2) ∧ Below w.heap.size w w' := by
  have H := hidden (measure_calls a n cap L w hl hcap hS hC)
  generalize measV L = r at *
  clear hl hcap hS hC
  go_enter Tryd.func14, Tryd.ntmps14
  go_wp2_with fail
  refine H.out.mono ?_
  rintro e w' ⟨rfl, hb⟩
  go_wp2
  go_ret
  exact ⟨rfl, hb⟩
theorem check_slX {C : Nat → Prop} {v : Value} {L : List Stp} {w : World} (h : SlX C w v L) (hC : ∀ b, C b → b < w.heap.size) :
    Calls Tryd.prog 14 #[v] w fun e w' => e = .returned (.int .i64 (measV L).2) ∧ Below w.heap.size w w' := by
  obtain ⟨a, cap, rfl, h1, h2, _, hS⟩ := h
  exact check_rx _ _ _ _ _ h1 h2 hS hC
end Go.Proofs.YthiiinbkkjacbaaDoor

/- Contract of Show. -/
namespace Go.Proofs.YthiiinbkkjacbaaDoor
open Go.RowKit Go.Lib Go.Joins

theorem RxAt.box {w : World} {s : Stp} : (w.alloc (.cells #[.int .i64 s.k, .int .u64 s.a, .int .u64 s.b, .int .u64 s.c, .int .u64 s.d] 39)).heap[w.heap.size]? = some (.cells #[.int .i64 s.k, .int .u64 s.a, .int .u64 s.b, .int .u64 s.c, .int .u64 s.d] 39 (0, 0)) := heap_alloc_new _ _
theorem trees_len {L : List Stp} {k : Nat} (hF : Forms (L.take k) (trees L k)) : (trees L k).length ≤ k := by
  have h1 := flat_net _ hF.2
  have h2 : ∀ es : List Ex, es.length ≤ (es.flatMap ops).length := fun es => by
    induction es with
    | nil => simp
    | cons e r ih =>
      rw [List.flatMap_cons, List.length_append, List.length_cons]
      have : 1 ≤ (ops e).length := by cases e <;> simp [ops] <;> omega
      omega
  have h3 := h2 (trees L k)
  rw [hF.1, List.length_take] at h3
  omega
set_option maxHeartbeats 4000000 in
set_option maxRecDepth 100000 in
theorem show_none {C : Nat → Prop} {v : Value} {L : List Stp} {w : World} (h : SlX C w v L) (hC : ∀ b, C b → b < w.heap.size) (hv : (measV L).2 ≠ 0) :
    Calls Tryd.prog 7 #[v] w fun e w' => e = .returned (.string ⟨#[]⟩) ∧ Below w.heap.size w w' := by
  have HC := hidden (check_slX h hC)
  have q0 : ((measV L).2 == 0) = false := by simpa using hv
  generalize (measV L).2 = z at *
  clear h hC hv
  go_enter Tryd.func7, Tryd.ntmps7
  go_wp2_with fail
  refine HC.out.mono ?_
  rintro e w1 ⟨rfl, hb1⟩
  go_wp2
  go_ret
  exact ⟨rfl, hb1⟩
set_option maxHeartbeats 4000000 in
set_option maxRecDepth 100000 in
theorem show_slX {C : Nat → Prop} {v : Value} {L : List Stp} {w : World} (h : SlX C w v L) (hC : ∀ b, C b → b < w.heap.size) (ht : Tab w) (hs : Signs w) (hv : (measV L).2 = 0) (hw : ∀ s ∈ L, s.wide) :
    Calls Tryd.prog 7 #[v] w fun e w' => e = .returned (.string (txt (showL L))) ∧ Below w.heap.size w w' := by
  have HCK := check_slX h hC
  rw [hv] at HCK
  have HC := hidden HCK
  obtain ⟨h512, hE⟩ := meas_expr hv
  have HT := hidden (tree_of hE hw)
  have HF := hidden (forms_at hE.1 hw)
  have HN := hidden (fun k (hk : k < L.length) => next_of hk hE.1 hw (forms_at hE.1 hw k (by omega)))
  have hpos := expr_ne hE
  obtain ⟨a, cap, rfl, hl, hcap, _, hS⟩ := h
  obtain ⟨n, hn⟩ : ∃ n, n = L.length := ⟨_, rfl⟩
  rw [← hn] at hl hS hpos h512 HCK HC ⊢
  have HNL := hidden hn
  have HS := hidden hS
  have HCb := hidden hC
  have HTab := hidden ht
  have HSig := hidden hs
  obtain ⟨T0, hT0⟩ : ∃ T0, T0 = showL L := ⟨_, rfl⟩
  rw [← hT0]
  have HT0 := hidden hT0
  unfold maxLen at hcap
  clear HCK hS hC ht hs hv hw hE hn hT0
  go_enter Tryd.func7, Tryd.ntmps7
  go_wp2_with fail
  refine HC.out.mono ?_
  rintro e w1 ⟨rfl, hb1⟩
  have HB1 := hidden hb1
  clear hb1
  go_wp2
  go_loopw [3, 11] (fun p i wr => ∃ (k : Nat) (v : Value), k ≤ n ∧ i = .int .i64 k ∧ v = p ∧ RowS wr w.heap.size v (trees L k) ∧ Below w.heap.size w wr) (fun _ i _ => n - (RowKit.intOf i).toNat)
  case atStart => exact ⟨0, _, by omega, rfl, rfl, RowS.nil _ _, HB1.out⟩
  case round =>
    obtain ⟨k, v, hk, rfl, rfl, hR, hb⟩ := hrel
    have HR := hidden hR
    have HB := hidden hb
    clear hR hb
    by_cases hlt : k < n
    · obtain ⟨b, off, rfl, hCb, hc⟩ := HS.out.2 (by omega)
      obtain ⟨c0, c1, c2, c3, c4⟩ := (hc k hlt).kept (w' := wr) (HB.out.block b (HCb.out b hCb))
      have hnx := HN.out k (by rw [← HNL.out]; exact hlt)
      have hfk := HF.out k (by rw [← HNL.out]; omega)
      have hlen := trees_len hfk
      have hle : ∀ e ∈ trees L k, (showE e).length ≤ 1000000 := fun e he => by
        have := tree_len hfk he
        rw [← HNL.out] at this
        omega
      obtain ⟨x, hx⟩ : ∃ x, x = L.getD k default := ⟨_, rfl⟩
      rw [← hx] at c0 c1 c2 c3 c4 hnx
      have hcall := fun W (h1 : RowS W w.heap.size v (trees L k)) (h2 : w.heap.size ≤ W.heap.size) h3 h4 => step_calls h1 h2 hnx.1 (by omega) hle h3 h4
      have q0 : decide ((k : Int) < n) = true := decide_eq_true (by omega)
      have hadd : IntKind.i64.wrap ((k : Int) + 1) = (k : Int) + 1 := by rw [IntKind.wrap_i64]; omega
      have hbw := (Below.refl wr.heap.size wr).alloc (Nat.le_refl _) (.cells #[.int .i64 x.k, .int .u64 x.a, .int .u64 x.b, .int .u64 x.c, .int .u64 x.d] 39)
      have hbb := below_after HB.out hbw
      have HCL := hidden (hcall _ (HR.out.below hbw) hbb.size (HTab.out.below hbb) (HSig.out.below hbb))
      have HBB := hidden hbb
      clear hc hCb hx hcall hnx hfk hlen hle hbw hbb
      obtain ⟨K, x1, x2, x3, x4⟩ := x
      unfold Stp.val at HCL
      simp only at c0 c1 c2 c3 c4 HCL HBB
      go_wp2_with fail
      refine HCL.out.mono ?_
      rintro e w2 ⟨v2, rfl, hR2, hb2⟩
      have HR2 := hidden hR2
      have HB2 := hidden (HBB.out.trans hb2)
      clear hR2 hb2
      go_wp2
      exact ⟨⟨k + 1, _, by omega, by go_num, rfl, HR2.out, HB2.out⟩, by simp [RowKit.intOf]; omega⟩
    · obtain rfl : k = n := by omega
      have q0 : decide ((k : Int) < k) = false := decide_eq_false (by omega)
      have hR := HR.out
      rw [HNL.out, HT.out.1] at hR
      obtain ⟨g, cp, hp, hg, ⟨c0, c1⟩, h1, h2, _⟩ := RowS.one (r := []) hR
      simp only [List.length_nil, Nat.zero_add, Nat.zero_mul] at hp c0 c1 h1
      subst hp
      clear hR hg
      go_wp2
      go_ret
      exact ⟨by rw [HT0.out]; rfl, HB.out⟩
end Go.Proofs.YthiiinbkkjacbaaDoor
