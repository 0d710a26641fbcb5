/- TxtStepEmp, TxtStepSet, TxtStepAlt, TxtStepCat, put together. -/
import Derived.Test.YthiiinbkkjacbaaDoorRt14
/- Contract of showStep, kind by kind. -/
namespace Go.Proofs.YthiiinbkkjacbaaDoor
open Go.RowKit Go.Lib Go.Joins
attribute [local go_sem] evalR_tmp evalR_const evalR_global evalR_func

set_option maxHeartbeats 8000000 in
set_option maxRecDepth 100000 in
theorem stepEmp {w : World} {base : Nat} {v : Value} {r : List Ex} (h : RowS w base v r) (hb : base ≤ w.heap.size) (hn : r.length ≤ 100000) :
    Calls Tryd.prog 15 #[v, (kStp 2).val] w (RetS base (r ++ [.emp]) w) := by
  obtain ⟨i0, hi, hz0, hz1, hz2⟩ := info_parts infoShown
  have HI := hidden hi
  have HZ := hidden (And.intro hz0 (And.intro hz1 hz2))
  clear hi hz0 hz1 hz2
  have hq : ∃ a n cap, v = .slice a n cap ∧ n = r.length ∧ n ≤ cap ∧ cap ≤ maxLen ∧ (a = none ∧ n = 0 ∧ cap = 0 ∨ ∃ g, a = some ⟨g, 0, none⟩) := by
    rcases h.addr with ⟨rfl, rfl⟩ | ⟨g, cap, rfl, h1, h2⟩
    · exact ⟨none, 0, 0, rfl, rfl, by omega, by unfold maxLen; omega, .inl ⟨rfl, rfl, rfl⟩⟩
    · exact ⟨_, _, _, rfl, rfl, h1, h2, .inr ⟨g, rfl⟩⟩
  obtain ⟨a, n, cap, rfl, hn2, hnc, hcm, hcase⟩ := hq
  have HT := hidden (row_tail h hn2 hb)
  have K3 := hidden (show n + 1 ≤ maxLen by unfold maxLen; omega)
  have K4 := hidden (show (n + 1) * 24 ≤ 140737488355328 by omega)
  have HN := hidden hn2
  unfold maxLen at hcm
  clear h hn2 hb hn
  unfold Stp.val kStp
  rcases hcase with ⟨rfl, rfl, rfl⟩ | ⟨g, rfl⟩
  all_goals
    go_enter Tryd.func15, Tryd.ntmps15
    go_wp2
    go_region_law (refine step_append_lies _ rfl _ _ 40 rfl base 43 i0 (.agg #[.string ⟨#[]⟩, .int .i64 0]) 2 24 Tryd.underlying40 HI.out HZ.out.1 HZ.out.2.1 HZ.out.2.2 rfl (by decide) _ _ (shCells r) rfl (HT.out.1 _ (by go_grown)) ⟨w.heap.size + 1, 0, none⟩ 1 1 [.string (txt [40, 41]), .int .i64 2] rfl rfl (news_new (by simp)) (fun u hu => show_cells1 hu) (by decide) K3.out K4.out (HT.out.2.2 _ (by go_grown)) _ rfl ?_; intro g5 cap5 w5 hown5 hgrow5 hlie5 hlt5; have HF := hidden hown5; have HG := hidden (HT.out.2.1 _ _ (by go_grown) hgrow5); clear hown5 hgrow5 hlie5 hlt5)
    all_goals
      go_wp2
      go_ret
      exact ⟨_, rfl, RowS.more2 HF.out HN.out rfl rfl, HG.out⟩
end Go.Proofs.YthiiinbkkjacbaaDoor

/- Contract of showStep, kind by kind. -/
namespace Go.Proofs.YthiiinbkkjacbaaDoor
open Go.RowKit Go.Lib Go.Joins
attribute [local go_sem] evalR_tmp evalR_const evalR_global evalR_func

set_option maxHeartbeats 8000000 in
set_option maxRecDepth 100000 in
theorem stepSet {w : World} {base : Nat} {v : Value} {r : List Ex} (f : Nat → Bool) (h : RowS w base v r) (hb : base ≤ w.heap.size) (hn : r.length ≤ 100000) (ht : Tab w) :
    Calls Tryd.prog 15 #[v, (sStp f).val] w (RetS base (r ++ [.set f]) w) := by
  obtain ⟨i0, hi, hz0, hz1, hz2⟩ := info_parts infoShown
  have HI := hidden hi
  have HZ := hidden (And.intro hz0 (And.intro hz1 hz2))
  clear hi hz0 hz1 hz2
  have hq : ∃ a n cap, v = .slice a n cap ∧ n = r.length ∧ n ≤ cap ∧ cap ≤ maxLen ∧ (a = none ∧ n = 0 ∧ cap = 0 ∨ ∃ g, a = some ⟨g, 0, none⟩) := by
    rcases h.addr with ⟨rfl, rfl⟩ | ⟨g, cap, rfl, h1, h2⟩
    · exact ⟨none, 0, 0, rfl, rfl, by omega, by unfold maxLen; omega, .inl ⟨rfl, rfl, rfl⟩⟩
    · exact ⟨_, _, _, rfl, rfl, h1, h2, .inr ⟨g, rfl⟩⟩
  obtain ⟨a, n, cap, rfl, hn2, hnc, hcm, hcase⟩ := hq
  have K3 := hidden (show n + 1 ≤ maxLen by unfold maxLen; omega)
  have K4 := hidden (show (n + 1) * 24 ≤ 140737488355328 by omega)
  have HN := hidden hn2
  have HB := hidden ((Below.refl w.heap.size w).alloc (Nat.le_refl _) (.cells #[.int .i64 1, .int .u64 (word f 0), .int .u64 (word f 1), .int .u64 (word f 2), .int .u64 (word f 3)] 39))
  have hbx := heap_alloc_new w (.cells #[.int .i64 1, .int .u64 (word f 0), .int .u64 (word f 1), .int .u64 (word f 2), .int .u64 (word f 3)] 39)
  have HX := hidden (cell_of_row _ _ 0 _ _ _ hbx)
  have hsz : w.heap.size < (w.alloc (.cells #[.int .i64 1, .int .u64 (word f 0), .int .u64 (word f 1), .int .u64 (word f 2), .int .u64 (word f 3)] 39)).heap.size := by simp
  have HSZ := hidden hsz
  have HS := hidden (showSet_calls f _ (ht.below HB.out))
  have HH := hidden h
  have HL := hidden hb
  unfold maxLen at hcm
  clear h hn2 hb hn hbx hsz ht
  unfold Stp.val sStp
  rcases hcase with ⟨rfl, rfl, rfl⟩ | ⟨g, rfl⟩
  all_goals
    go_enter Tryd.func15, Tryd.ntmps15
    go_wp2_with fail
    refine HS.out.mono ?_
    rintro e W1 ⟨rfl, hb1⟩
    have c4 : W1.cell? ⟨w.heap.size, 0, none⟩ = some (.int .i64 1) := (hb1.cell (p := ⟨w.heap.size, 0, none⟩) HSZ.out).trans HX.out
    have hW1 := below_after HB.out hb1
    have hlt := Nat.lt_of_lt_of_le HSZ.out hb1.size
    have HT := hidden (row_tail (HH.out.below hW1) HN.out (Nat.le_trans HL.out hW1.size))
    have HW1 := hidden (hW1.mono HL.out)
    clear hb1 hW1
    go_wp2
    go_region_law (refine step_append_lies _ rfl _ _ 40 rfl base 43 i0 (.agg #[.string ⟨#[]⟩, .int .i64 0]) 2 24 Tryd.underlying40 HI.out HZ.out.1 HZ.out.2.1 HZ.out.2.2 rfl (by decide) _ _ (shCells r) rfl (HT.out.1 _ (by go_grown)) ⟨W1.heap.size, 0, none⟩ 1 1 [.string (txt (shSet f)), .int .i64 1] rfl rfl (news_new (by simp)) (fun u hu => show_cells1 hu) (by decide) K3.out K4.out (HT.out.2.2 _ (by go_grown)) _ rfl ?_; intro g5 cap5 w5 hown5 hgrow5 hlie5 hlt5; have HF := hidden hown5; have HG := hidden (HT.out.2.1 _ _ (by go_grown) hgrow5); clear hown5 hgrow5 hlie5 hlt5)
    all_goals
      go_wp2
      go_ret
      exact ⟨_, rfl, RowS.more2 HF.out HN.out rfl rfl, HW1.out.trans HG.out⟩
end Go.Proofs.YthiiinbkkjacbaaDoor

/- Contract of showStep, kind by kind. -/
namespace Go.Proofs.YthiiinbkkjacbaaDoor
open Go.RowKit Go.Lib Go.Joins
attribute [local go_sem] evalR_tmp evalR_const evalR_global evalR_func

def LAlt (g n cap m p : Nat) (ta tb : List UInt8) (kb : Int) : List (Value → World → Prop) := [Is (.slice (some ⟨g, 0, none⟩) n cap), Is (.int .i64 m), Is (.pointer (some ⟨g, m * 2, none⟩)), Is (.pointer (some ⟨g, m * 2, none⟩)), Is (.string (txt ta)), Is (.string (txt ta ++ ⟨#[124]⟩)), Is (.slice (some ⟨g, 0, none⟩) n cap), Is (.int .i64 m), Is (.int .i64 p), Is (.pointer (some ⟨g, p * 2, none⟩)), Is (.agg #[.string (txt tb), .int .i64 kb]), KS1, Is (.string (txt (par (isAlt kb) tb))), Is (.string (txt ta ++ ⟨#[124]⟩ ++ txt (par (isAlt kb) tb))), Is (.string (txt ta ++ ⟨#[124]⟩ ++ txt (par (isAlt kb) tb)))]
set_option maxHeartbeats 8000000 in
set_option maxRecDepth 100000 in
theorem stepAlt {w : World} {base : Nat} {v : Value} {r : List Ex} {a b : Ex} (h : RowS w base v (r ++ [a, b])) (hb : base ≤ w.heap.size) (hn : r.length ≤ 100000) (hla : (showE a).length ≤ 1000000) (hlb : (showE b).length ≤ 1000000) :
    Calls Tryd.prog 15 #[v, (kStp 4).val] w (RetS base (r ++ [.alt a b]) w) := by
  obtain ⟨i0, hi, hz0, hz1, hz2⟩ := info_parts infoShown
  have HI := hidden hi
  have HZ := hidden (And.intro hz0 (And.intro hz1 hz2))
  clear hi hz0 hz1 hz2
  obtain ⟨W0, hW0⟩ : ∃ W0, W0 = w.alloc (.cells #[.int .i64 4, .int .u64 0, .int .u64 0, .int .u64 0, .int .u64 0] 39) := ⟨_, rfl⟩
  have HB : Hid (Below w.heap.size w W0) := hidden (hW0 ▸ (Below.refl w.heap.size w).alloc (Nat.le_refl _) _)
  have hB : w.heap.size < W0.heap.size := by rw [hW0]; simp
  have hbx : W0.cell? ⟨w.heap.size, 0, none⟩ = some (.int .i64 4) := by rw [hW0]; exact cell_of_row _ _ 0 _ _ _ (heap_alloc_new w _)
  have HX := hidden hbx
  have hR := h.below HB.out
  obtain ⟨g, cap, rfl, hg, ⟨c0, c1⟩, ⟨c2, c3⟩, hnc, hcm, hrow⟩ := hR.two
  have HL := hidden (Nat.le_trans hb HB.out.size)
  have HL0 := hidden hb
  obtain ⟨m, hm⟩ : ∃ m, m = r.length := ⟨_, rfl⟩
  rw [← hm] at c0 c1 c2 c3 hnc hrow
  have HROW := hidden hrow
  obtain ⟨n, hn2⟩ : ∃ n, n = m + 2 := ⟨_, rfl⟩
  obtain ⟨p, hp⟩ : ∃ p, p = m + 1 := ⟨_, rfl⟩
  have hv : r.length + 2 = n := by omega
  rw [← hp] at c2 c3
  rw [hv]
  rw [← hn2] at hnc
  unfold maxLen at hcm
  have K3 := hidden (show m + 1 ≤ maxLen by unfold maxLen; omega)
  have K4 := hidden (show (m + 1) * 24 ≤ 140737488355328 by omega)
  have HN := hidden hm
  have hmn : m < n := by omega
  have hpn : p < n := by omega
  have hmc : m ≤ cap := by omega
  have hsub : IntKind.i64.wrap ((n : Int) - 2) = m := by rw [IntKind.wrap_i64]; omega
  have hadd : IntKind.i64.wrap ((m : Int) + 1) = p := by rw [IntKind.wrap_i64]; omega
  obtain ⟨te, hte⟩ : ∃ te, te = showE (.alt a b) := ⟨_, rfl⟩
  have HTE := hidden hte
  simp only [showE] at hte
  generalize showE a = ta at *
  generalize showE b = tb at *
  generalize a.kind = ka at *
  generalize b.kind = kb at *
  have hla : ta.length ≤ 1000000000 := by omega
  have hlb : tb.length ≤ 1000000000 := by omega
  have HT5 := hidden (show txt ta ++ ⟨#[124]⟩ ++ txt (par (isAlt kb) tb) = txt te by rw [hte, show (⟨#[124]⟩ : ByteArray) = txt [124] from rfl, txt_add, txt_add])
  have y0 := par_len (isAlt kb) tb
  have z1 : ¬ 9223372036854775807 < (txt ta).size + 1 := by rw [txt_size]; omega
  have z2 : ¬ 9223372036854775807 < (txt ta).size + 1 + (txt (par (isAlt kb) tb)).size := by rw [txt_size, txt_size]; omega
  clear y0
  have HW0 := hidden hW0
  clear h hn2 hp hn hrow hm hv hte hbx hW0 hb hR
  unfold Stp.val kStp
  go_enter Tryd.func15, Tryd.ntmps15
  go_wp2
  rw [← HW0.out]
  refine wp_region_steps (typ (LAlt g n cap m p ta tb kb)) (fun W => Below W0.heap.size W0 W) (by kernel_rfl) (by kernel_rfl) (by kernel_rfl) (by kernel_rfl) ?mono ?start [] (by kernel_rfl) ?guards ?step ?fin
  case mono =>
    refine typ_mono ?_
    simp only [LAlt, List.forall_mem_cons]
    repeat' (first | exact is_mono _ | exact ks1_mono | exact ks2_mono | (intro p hp; cases hp; done) | refine And.intro ?_ ?_)
  case start => exact (Below.refl _ _).drew
  case guards =>
    intro g hg v w h
    simp at hg
  case step =>
    refine ⟨?_, ?_, ?_, ?_, ?_, ?_, ?_, ?_, ?_, ?_, ?_, ?_, ?_, ?_, ?_, trivial⟩
    · intro ρ w1 hF hW
      have HW := hidden hW
      clear hW
      have e0 : ρ 0 = .slice (some ⟨g, 0, none⟩) n cap := hF 0 (by decide)
      clear hF
      unfold Does
      go_simp
      exact ⟨rfl, HW.out, Below.refl _ _⟩
    · intro ρ w1 hF hW
      have HW := hidden hW
      clear hW
      have e6 : ρ 6 = .int .i64 m := hF 6 (by decide)
      clear hF
      unfold Does
      go_simp
      exact ⟨rfl, HW.out, Below.refl _ _⟩
    · intro ρ w1 hF hW
      have HW := hidden hW
      clear hW
      have e34 : ρ 34 = .slice (some ⟨g, 0, none⟩) n cap := hF 34 (by decide)
      have e35 : ρ 35 = .int .i64 m := hF 35 (by decide)
      clear hF
      unfold Does
      go_simp
      exact ⟨rfl, HW.out, Below.refl _ _⟩
    · intro ρ w1 hF hW
      have HW := hidden hW
      clear hW
      have e36 : ρ 36 = .pointer (some ⟨g, m * 2, none⟩) := hF 36 (by decide)
      clear hF
      unfold Does
      go_simp
      exact ⟨rfl, HW.out, Below.refl _ _⟩
    · intro ρ w1 hF hW
      have HW := hidden hW
      clear hW
      have e37 : ρ 37 = .pointer (some ⟨g, m * 2, none⟩) := hF 37 (by decide)
      clear hF
      have y0 := (HW.out.cell (p := ⟨g, m * 2, none⟩) hg).trans c0
      have y1 := (HW.out.cell (p := ⟨g, m * 2 + 1, none⟩) hg).trans c1
      unfold Does
      go_simp
      exact ⟨rfl, HW.out, Below.refl _ _⟩
    · intro ρ w1 hF hW
      have HW := hidden hW
      clear hW
      have e38 : ρ 38 = .string (txt ta) := hF 38 (by decide)
      clear hF
      unfold Does
      go_simp
      exact ⟨rfl, HW.out, Below.refl _ _⟩
    · intro ρ w1 hF hW
      have HW := hidden hW
      clear hW
      have e0 : ρ 0 = .slice (some ⟨g, 0, none⟩) n cap := hF 0 (by decide)
      clear hF
      unfold Does
      go_simp
      exact ⟨rfl, HW.out, Below.refl _ _⟩
    · intro ρ w1 hF hW
      have HW := hidden hW
      clear hW
      have e6 : ρ 6 = .int .i64 m := hF 6 (by decide)
      clear hF
      unfold Does
      go_simp
      exact ⟨rfl, HW.out, Below.refl _ _⟩
    · intro ρ w1 hF hW
      have HW := hidden hW
      clear hW
      have e41 : ρ 41 = .int .i64 m := hF 41 (by decide)
      clear hF
      unfold Does
      go_simp
      exact ⟨rfl, HW.out, Below.refl _ _⟩
    · intro ρ w1 hF hW
      have HW := hidden hW
      clear hW
      have e40 : ρ 40 = .slice (some ⟨g, 0, none⟩) n cap := hF 40 (by decide)
      have e42 : ρ 42 = .int .i64 p := hF 42 (by decide)
      clear hF
      unfold Does
      go_simp
      exact ⟨rfl, HW.out, Below.refl _ _⟩
    · intro ρ w1 hF hW
      have HW := hidden hW
      clear hW
      have e43 : ρ 43 = .pointer (some ⟨g, p * 2, none⟩) := hF 43 (by decide)
      clear hF
      have y0 := (HW.out.cell (p := ⟨g, p * 2, none⟩) hg).trans c2
      have y1 := (HW.out.cell (p := ⟨g, p * 2 + 1, none⟩) hg).trans c3
      unfold Does
      go_simp
      exact ⟨rfl, HW.out, Below.refl _ _⟩
    · intro ρ w1 hF hW
      have HW := hidden hW
      clear hW
      clear hF
      unfold Does
      go_simp
      exact ⟨ks1_new w1, below_after HW.out ((Below.refl _ _).alloc (Nat.le_refl _) _), (Below.refl _ _).alloc (Nat.le_refl _) _⟩
    · intro ρ w1 hF hW
      have HW := hidden hW
      clear hW
      have e44 : ρ 44 = .agg #[.string (txt tb), .int .i64 kb] := hF 44 (by decide)
      have e45 : KS1 (ρ 45) w1 := hF 45 (by decide)
      clear hF
      unfold Does
      go_simp
      refine (within_one e45 tb kb hlb).mono ?_
      rintro e w2 ⟨rfl, hb⟩
      exact ⟨_, rfl, rfl, below_after HW.out hb, hb⟩
    · intro ρ w1 hF hW
      have HW := hidden hW
      clear hW
      have e39 : ρ 39 = .string (txt ta ++ ⟨#[124]⟩) := hF 39 (by decide)
      have e46 : ρ 46 = .string (txt (par (isAlt kb) tb)) := hF 46 (by decide)
      clear hF
      unfold Does
      go_simp
      exact ⟨rfl, HW.out, Below.refl _ _⟩
    · intro ρ w1 hF hW
      have HW := hidden hW
      clear hW
      have e47 : ρ 47 = .string (txt ta ++ ⟨#[124]⟩ ++ txt (par (isAlt kb) tb)) := hF 47 (by decide)
      clear hF
      unfold Does
      go_simp
      exact ⟨rfl, HW.out, Below.refl _ _⟩
  case fin =>
    intro a W1 hs hv hW
    rename_i Q' K hK
    refine hK a W1 ?_
    have hz : a.tmps.size = 75 := hs.size
    have s0 : a.tmps.getD 0 undef = .slice (some ⟨g, 0, none⟩) n cap := hs.slot 0 (by kernel_rfl)
    have s3 : a.tmps.getD 3 undef = .pointer (some ⟨w.heap.size, 0, none⟩) := hs.slot 3 (by kernel_rfl)
    have s6 : a.tmps.getD 6 undef = .int .i64 m := hs.slot 6 (by kernel_rfl)
    have s5 : a.tmps.getD 5 undef = .string (txt ta ++ ⟨#[124]⟩ ++ txt (par (isAlt kb) tb)) := hv 14 5 (by kernel_rfl)
    have hd : a.defers = [] := hs.defers
    have HW1 := hidden hW
    clear hs hv hK hW
    obtain ⟨tm, df⟩ := a
    simp only at hz s0 s3 s5 s6 hd
    have hz := arr75 hz
    rw [s0, s3, s5, s6] at hz
    clear s0 s3 s5 s6
    generalize tm.getD 1 undef = u1 at hz
    generalize tm.getD 2 undef = u2 at hz
    generalize tm.getD 4 undef = u4 at hz
    generalize tm.getD 7 undef = u7 at hz
    generalize tm.getD 8 undef = u8 at hz
    generalize tm.getD 9 undef = u9 at hz
    generalize tm.getD 10 undef = u10 at hz
    generalize tm.getD 11 undef = u11 at hz
    generalize tm.getD 12 undef = u12 at hz
    generalize tm.getD 13 undef = u13 at hz
    generalize tm.getD 14 undef = u14 at hz
    generalize tm.getD 15 undef = u15 at hz
    generalize tm.getD 16 undef = u16 at hz
    generalize tm.getD 17 undef = u17 at hz
    generalize tm.getD 18 undef = u18 at hz
    generalize tm.getD 19 undef = u19 at hz
    generalize tm.getD 20 undef = u20 at hz
    generalize tm.getD 21 undef = u21 at hz
    generalize tm.getD 22 undef = u22 at hz
    generalize tm.getD 23 undef = u23 at hz
    generalize tm.getD 24 undef = u24 at hz
    generalize tm.getD 25 undef = u25 at hz
    generalize tm.getD 26 undef = u26 at hz
    generalize tm.getD 27 undef = u27 at hz
    generalize tm.getD 28 undef = u28 at hz
    generalize tm.getD 29 undef = u29 at hz
    generalize tm.getD 30 undef = u30 at hz
    generalize tm.getD 31 undef = u31 at hz
    generalize tm.getD 32 undef = u32 at hz
    generalize tm.getD 33 undef = u33 at hz
    generalize tm.getD 34 undef = u34 at hz
    generalize tm.getD 35 undef = u35 at hz
    generalize tm.getD 36 undef = u36 at hz
    generalize tm.getD 37 undef = u37 at hz
    generalize tm.getD 38 undef = u38 at hz
    generalize tm.getD 39 undef = u39 at hz
    generalize tm.getD 40 undef = u40 at hz
    generalize tm.getD 41 undef = u41 at hz
    generalize tm.getD 42 undef = u42 at hz
    generalize tm.getD 43 undef = u43 at hz
    generalize tm.getD 44 undef = u44 at hz
    generalize tm.getD 45 undef = u45 at hz
    generalize tm.getD 46 undef = u46 at hz
    generalize tm.getD 47 undef = u47 at hz
    generalize tm.getD 48 undef = u48 at hz
    generalize tm.getD 49 undef = u49 at hz
    generalize tm.getD 50 undef = u50 at hz
    generalize tm.getD 51 undef = u51 at hz
    generalize tm.getD 52 undef = u52 at hz
    generalize tm.getD 53 undef = u53 at hz
    generalize tm.getD 54 undef = u54 at hz
    generalize tm.getD 55 undef = u55 at hz
    generalize tm.getD 56 undef = u56 at hz
    generalize tm.getD 57 undef = u57 at hz
    generalize tm.getD 58 undef = u58 at hz
    generalize tm.getD 59 undef = u59 at hz
    generalize tm.getD 60 undef = u60 at hz
    generalize tm.getD 61 undef = u61 at hz
    generalize tm.getD 62 undef = u62 at hz
    generalize tm.getD 63 undef = u63 at hz
    generalize tm.getD 64 undef = u64 at hz
    generalize tm.getD 65 undef = u65 at hz
    generalize tm.getD 66 undef = u66 at hz
    generalize tm.getD 67 undef = u67 at hz
    generalize tm.getD 68 undef = u68 at hz
    generalize tm.getD 69 undef = u69 at hz
    generalize tm.getD 70 undef = u70 at hz
    generalize tm.getD 71 undef = u71 at hz
    generalize tm.getD 72 undef = u72 at hz
    generalize tm.getD 73 undef = u73 at hz
    generalize tm.getD 74 undef = u74 at hz
    subst hz hd
    rw [HT5.out]
    have c4 : W1.cell? ⟨w.heap.size, 0, none⟩ = some (.int .i64 4) := (HW1.out.cell (p := ⟨w.heap.size, 0, none⟩) hB).trans HX.out
    have hlt := Nat.lt_of_lt_of_le hB HW1.out.size
    have HT := hidden (row_tail (HROW.out.below HW1.out) HN.out (Nat.le_trans HL.out HW1.out.size))
    have HW2 := hidden ((HB.out.mono HL0.out).trans (HW1.out.mono HL.out))
    clear c0 c1 c2 c3
    go_wp2
    go_region_law (refine step_append_lies _ rfl _ _ 40 rfl base 43 i0 (.agg #[.string ⟨#[]⟩, .int .i64 0]) 2 24 Tryd.underlying40 HI.out HZ.out.1 HZ.out.2.1 HZ.out.2.2 rfl (by decide) _ _ (shCells r) rfl (HT.out.1 _ (by go_grown)) ⟨W1.heap.size, 0, none⟩ 1 1 [.string (txt te), .int .i64 4] rfl rfl (news_new (by simp)) (fun u hu => show_cells1 hu) (by decide) K3.out K4.out (HT.out.2.2 _ (by go_grown)) _ rfl ?_; intro g5 cap5 w5 hown5 hgrow5 hlie5 hlt5; have HF := hidden hown5; have HG := hidden (HT.out.2.1 _ _ (by go_grown) hgrow5); clear hown5 hgrow5 hlie5 hlt5)
    all_goals
      go_wp2
      go_ret
      exact ⟨_, rfl, RowS.more2 HF.out HN.out HTE.out rfl, HW2.out.trans HG.out⟩
end Go.Proofs.YthiiinbkkjacbaaDoor

/- Contract of showStep, kind by kind. -/
namespace Go.Proofs.YthiiinbkkjacbaaDoor
open Go.RowKit Go.Lib Go.Joins
attribute [local go_sem] evalR_tmp evalR_const evalR_global evalR_func

def LCat (g n cap m p : Nat) (ta tb : List UInt8) (ka kb : Int) : List (Value → World → Prop) := [Is (.slice (some ⟨g, 0, none⟩) n cap), Is (.int .i64 m), Is (.pointer (some ⟨g, m * 2, none⟩)), Is (.agg #[.string (txt ta), .int .i64 ka]), KS1, Is (.string (txt (par (isAlt ka) ta))), Is (.slice (some ⟨g, 0, none⟩) n cap), Is (.int .i64 m), Is (.int .i64 p), Is (.pointer (some ⟨g, p * 2, none⟩)), Is (.agg #[.string (txt tb), .int .i64 kb]), KS2, Is (.string (txt (par (isTwo kb) tb))), Is (.string (txt (par (isAlt ka) ta) ++ txt (par (isTwo kb) tb))), Is (.string (txt (par (isAlt ka) ta) ++ txt (par (isTwo kb) tb)))]
set_option maxHeartbeats 8000000 in
set_option maxRecDepth 100000 in
theorem stepCat {w : World} {base : Nat} {v : Value} {r : List Ex} {a b : Ex} (h : RowS w base v (r ++ [a, b])) (hb : base ≤ w.heap.size) (hn : r.length ≤ 100000) (hla : (showE a).length ≤ 1000000) (hlb : (showE b).length ≤ 1000000) :
    Calls Tryd.prog 15 #[v, (kStp 3).val] w (RetS base (r ++ [.cat a b]) w) := by
  obtain ⟨i0, hi, hz0, hz1, hz2⟩ := info_parts infoShown
  have HI := hidden hi
  have HZ := hidden (And.intro hz0 (And.intro hz1 hz2))
  clear hi hz0 hz1 hz2
  obtain ⟨W0, hW0⟩ : ∃ W0, W0 = w.alloc (.cells #[.int .i64 3, .int .u64 0, .int .u64 0, .int .u64 0, .int .u64 0] 39) := ⟨_, rfl⟩
  have HB : Hid (Below w.heap.size w W0) := hidden (hW0 ▸ (Below.refl w.heap.size w).alloc (Nat.le_refl _) _)
  have hB : w.heap.size < W0.heap.size := by rw [hW0]; simp
  have hbx : W0.cell? ⟨w.heap.size, 0, none⟩ = some (.int .i64 3) := by rw [hW0]; exact cell_of_row _ _ 0 _ _ _ (heap_alloc_new w _)
  have HX := hidden hbx
  have hR := h.below HB.out
  obtain ⟨g, cap, rfl, hg, ⟨c0, c1⟩, ⟨c2, c3⟩, hnc, hcm, hrow⟩ := hR.two
  have HL := hidden (Nat.le_trans hb HB.out.size)
  have HL0 := hidden hb
  obtain ⟨m, hm⟩ : ∃ m, m = r.length := ⟨_, rfl⟩
  rw [← hm] at c0 c1 c2 c3 hnc hrow
  have HROW := hidden hrow
  obtain ⟨n, hn2⟩ : ∃ n, n = m + 2 := ⟨_, rfl⟩
  obtain ⟨p, hp⟩ : ∃ p, p = m + 1 := ⟨_, rfl⟩
  have hv : r.length + 2 = n := by omega
  rw [← hp] at c2 c3
  rw [hv]
  rw [← hn2] at hnc
  unfold maxLen at hcm
  have K3 := hidden (show m + 1 ≤ maxLen by unfold maxLen; omega)
  have K4 := hidden (show (m + 1) * 24 ≤ 140737488355328 by omega)
  have HN := hidden hm
  have hmn : m < n := by omega
  have hpn : p < n := by omega
  have hmc : m ≤ cap := by omega
  have hsub : IntKind.i64.wrap ((n : Int) - 2) = m := by rw [IntKind.wrap_i64]; omega
  have hadd : IntKind.i64.wrap ((m : Int) + 1) = p := by rw [IntKind.wrap_i64]; omega
  obtain ⟨te, hte⟩ : ∃ te, te = showE (.cat a b) := ⟨_, rfl⟩
  have HTE := hidden hte
  simp only [showE] at hte
  generalize showE a = ta at *
  generalize showE b = tb at *
  generalize a.kind = ka at *
  generalize b.kind = kb at *
  have hla : ta.length ≤ 1000000000 := by omega
  have hlb : tb.length ≤ 1000000000 := by omega
  have HT5 := hidden (show txt (par (isAlt ka) ta) ++ txt (par (isTwo kb) tb) = txt te by rw [hte, txt_add])
  have y0 := par_len (isAlt ka) ta
  have y1 := par_len (isTwo kb) tb
  have z1 : ¬ 9223372036854775807 < (txt (par (isAlt ka) ta)).size + (txt (par (isTwo kb) tb)).size := by rw [txt_size, txt_size]; omega
  clear y0 y1
  have HW0 := hidden hW0
  clear h hn2 hp hn hrow hm hv hte hbx hW0 hb hR
  unfold Stp.val kStp
  go_enter Tryd.func15, Tryd.ntmps15
  go_wp2
  rw [← HW0.out]
  refine wp_region_steps (typ (LCat g n cap m p ta tb ka kb)) (fun W => Below W0.heap.size W0 W) (by kernel_rfl) (by kernel_rfl) (by kernel_rfl) (by kernel_rfl) ?mono ?start [] (by kernel_rfl) ?guards ?step ?fin
  case mono =>
    refine typ_mono ?_
    simp only [LCat, List.forall_mem_cons]
    repeat' (first | exact is_mono _ | exact ks1_mono | exact ks2_mono | (intro p hp; cases hp; done) | refine And.intro ?_ ?_)
  case start => exact (Below.refl _ _).drew
  case guards =>
    intro g hg v w h
    simp at hg
  case step =>
    refine ⟨?_, ?_, ?_, ?_, ?_, ?_, ?_, ?_, ?_, ?_, ?_, ?_, ?_, ?_, ?_, trivial⟩
    · intro ρ w1 hF hW
      have HW := hidden hW
      clear hW
      have e0 : ρ 0 = .slice (some ⟨g, 0, none⟩) n cap := hF 0 (by decide)
      clear hF
      unfold Does
      go_simp
      exact ⟨rfl, HW.out, Below.refl _ _⟩
    · intro ρ w1 hF hW
      have HW := hidden hW
      clear hW
      have e6 : ρ 6 = .int .i64 m := hF 6 (by decide)
      clear hF
      unfold Does
      go_simp
      exact ⟨rfl, HW.out, Below.refl _ _⟩
    · intro ρ w1 hF hW
      have HW := hidden hW
      clear hW
      have e52 : ρ 52 = .slice (some ⟨g, 0, none⟩) n cap := hF 52 (by decide)
      have e53 : ρ 53 = .int .i64 m := hF 53 (by decide)
      clear hF
      unfold Does
      go_simp
      exact ⟨rfl, HW.out, Below.refl _ _⟩
    · intro ρ w1 hF hW
      have HW := hidden hW
      clear hW
      have e54 : ρ 54 = .pointer (some ⟨g, m * 2, none⟩) := hF 54 (by decide)
      clear hF
      have y0 := (HW.out.cell (p := ⟨g, m * 2, none⟩) hg).trans c0
      have y1 := (HW.out.cell (p := ⟨g, m * 2 + 1, none⟩) hg).trans c1
      unfold Does
      go_simp
      exact ⟨rfl, HW.out, Below.refl _ _⟩
    · intro ρ w1 hF hW
      have HW := hidden hW
      clear hW
      clear hF
      unfold Does
      go_simp
      exact ⟨ks1_new w1, below_after HW.out ((Below.refl _ _).alloc (Nat.le_refl _) _), (Below.refl _ _).alloc (Nat.le_refl _) _⟩
    · intro ρ w1 hF hW
      have HW := hidden hW
      clear hW
      have e55 : ρ 55 = .agg #[.string (txt ta), .int .i64 ka] := hF 55 (by decide)
      have e56 : KS1 (ρ 56) w1 := hF 56 (by decide)
      clear hF
      unfold Does
      go_simp
      refine (within_one e56 ta ka hla).mono ?_
      rintro e w2 ⟨rfl, hb⟩
      exact ⟨_, rfl, rfl, below_after HW.out hb, hb⟩
    · intro ρ w1 hF hW
      have HW := hidden hW
      clear hW
      have e0 : ρ 0 = .slice (some ⟨g, 0, none⟩) n cap := hF 0 (by decide)
      clear hF
      unfold Does
      go_simp
      exact ⟨rfl, HW.out, Below.refl _ _⟩
    · intro ρ w1 hF hW
      have HW := hidden hW
      clear hW
      have e6 : ρ 6 = .int .i64 m := hF 6 (by decide)
      clear hF
      unfold Does
      go_simp
      exact ⟨rfl, HW.out, Below.refl _ _⟩
    · intro ρ w1 hF hW
      have HW := hidden hW
      clear hW
      have e59 : ρ 59 = .int .i64 m := hF 59 (by decide)
      clear hF
      unfold Does
      go_simp
      exact ⟨rfl, HW.out, Below.refl _ _⟩
    · intro ρ w1 hF hW
      have HW := hidden hW
      clear hW
      have e58 : ρ 58 = .slice (some ⟨g, 0, none⟩) n cap := hF 58 (by decide)
      have e60 : ρ 60 = .int .i64 p := hF 60 (by decide)
      clear hF
      unfold Does
      go_simp
      exact ⟨rfl, HW.out, Below.refl _ _⟩
    · intro ρ w1 hF hW
      have HW := hidden hW
      clear hW
      have e61 : ρ 61 = .pointer (some ⟨g, p * 2, none⟩) := hF 61 (by decide)
      clear hF
      have y0 := (HW.out.cell (p := ⟨g, p * 2, none⟩) hg).trans c2
      have y1 := (HW.out.cell (p := ⟨g, p * 2 + 1, none⟩) hg).trans c3
      unfold Does
      go_simp
      exact ⟨rfl, HW.out, Below.refl _ _⟩
    · intro ρ w1 hF hW
      have HW := hidden hW
      clear hW
      clear hF
      unfold Does
      go_simp
      exact ⟨ks2_new w1, below_after HW.out ((Below.refl _ _).alloc (Nat.le_refl _) _), (Below.refl _ _).alloc (Nat.le_refl _) _⟩
    · intro ρ w1 hF hW
      have HW := hidden hW
      clear hW
      have e62 : ρ 62 = .agg #[.string (txt tb), .int .i64 kb] := hF 62 (by decide)
      have e63 : KS2 (ρ 63) w1 := hF 63 (by decide)
      clear hF
      unfold Does
      go_simp
      refine (within_two e63 tb kb hlb).mono ?_
      rintro e w2 ⟨rfl, hb⟩
      exact ⟨_, rfl, rfl, below_after HW.out hb, hb⟩
    · intro ρ w1 hF hW
      have HW := hidden hW
      clear hW
      have e57 : ρ 57 = .string (txt (par (isAlt ka) ta)) := hF 57 (by decide)
      have e64 : ρ 64 = .string (txt (par (isTwo kb) tb)) := hF 64 (by decide)
      clear hF
      unfold Does
      go_simp
      exact ⟨rfl, HW.out, Below.refl _ _⟩
    · intro ρ w1 hF hW
      have HW := hidden hW
      clear hW
      have e65 : ρ 65 = .string (txt (par (isAlt ka) ta) ++ txt (par (isTwo kb) tb)) := hF 65 (by decide)
      clear hF
      unfold Does
      go_simp
      exact ⟨rfl, HW.out, Below.refl _ _⟩
  case fin =>
    intro a W1 hs hv hW
    rename_i Q' K hK
    refine hK a W1 ?_
    have hz : a.tmps.size = 75 := hs.size
    have s0 : a.tmps.getD 0 undef = .slice (some ⟨g, 0, none⟩) n cap := hs.slot 0 (by kernel_rfl)
    have s3 : a.tmps.getD 3 undef = .pointer (some ⟨w.heap.size, 0, none⟩) := hs.slot 3 (by kernel_rfl)
    have s6 : a.tmps.getD 6 undef = .int .i64 m := hs.slot 6 (by kernel_rfl)
    have s5 : a.tmps.getD 5 undef = .string (txt (par (isAlt ka) ta) ++ txt (par (isTwo kb) tb)) := hv 14 5 (by kernel_rfl)
    have hd : a.defers = [] := hs.defers
    have HW1 := hidden hW
    clear hs hv hK hW
    obtain ⟨tm, df⟩ := a
    simp only at hz s0 s3 s5 s6 hd
    have hz := arr75 hz
    rw [s0, s3, s5, s6] at hz
    clear s0 s3 s5 s6
    generalize tm.getD 1 undef = u1 at hz
    generalize tm.getD 2 undef = u2 at hz
    generalize tm.getD 4 undef = u4 at hz
    generalize tm.getD 7 undef = u7 at hz
    generalize tm.getD 8 undef = u8 at hz
    generalize tm.getD 9 undef = u9 at hz
    generalize tm.getD 10 undef = u10 at hz
    generalize tm.getD 11 undef = u11 at hz
    generalize tm.getD 12 undef = u12 at hz
    generalize tm.getD 13 undef = u13 at hz
    generalize tm.getD 14 undef = u14 at hz
    generalize tm.getD 15 undef = u15 at hz
    generalize tm.getD 16 undef = u16 at hz
    generalize tm.getD 17 undef = u17 at hz
    generalize tm.getD 18 undef = u18 at hz
    generalize tm.getD 19 undef = u19 at hz
    generalize tm.getD 20 undef = u20 at hz
    generalize tm.getD 21 undef = u21 at hz
    generalize tm.getD 22 undef = u22 at hz
    generalize tm.getD 23 undef = u23 at hz
    generalize tm.getD 24 undef = u24 at hz
    generalize tm.getD 25 undef = u25 at hz
    generalize tm.getD 26 undef = u26 at hz
    generalize tm.getD 27 undef = u27 at hz
    generalize tm.getD 28 undef = u28 at hz
    generalize tm.getD 29 undef = u29 at hz
    generalize tm.getD 30 undef = u30 at hz
    generalize tm.getD 31 undef = u31 at hz
    generalize tm.getD 32 undef = u32 at hz
    generalize tm.getD 33 undef = u33 at hz
    generalize tm.getD 34 undef = u34 at hz
    generalize tm.getD 35 undef = u35 at hz
    generalize tm.getD 36 undef = u36 at hz
    generalize tm.getD 37 undef = u37 at hz
    generalize tm.getD 38 undef = u38 at hz
    generalize tm.getD 39 undef = u39 at hz
    generalize tm.getD 40 undef = u40 at hz
    generalize tm.getD 41 undef = u41 at hz
    generalize tm.getD 42 undef = u42 at hz
    generalize tm.getD 43 undef = u43 at hz
    generalize tm.getD 44 undef = u44 at hz
    generalize tm.getD 45 undef = u45 at hz
    generalize tm.getD 46 undef = u46 at hz
    generalize tm.getD 47 undef = u47 at hz
    generalize tm.getD 48 undef = u48 at hz
    generalize tm.getD 49 undef = u49 at hz
    generalize tm.getD 50 undef = u50 at hz
    generalize tm.getD 51 undef = u51 at hz
    generalize tm.getD 52 undef = u52 at hz
    generalize tm.getD 53 undef = u53 at hz
    generalize tm.getD 54 undef = u54 at hz
    generalize tm.getD 55 undef = u55 at hz
    generalize tm.getD 56 undef = u56 at hz
    generalize tm.getD 57 undef = u57 at hz
    generalize tm.getD 58 undef = u58 at hz
    generalize tm.getD 59 undef = u59 at hz
    generalize tm.getD 60 undef = u60 at hz
    generalize tm.getD 61 undef = u61 at hz
    generalize tm.getD 62 undef = u62 at hz
    generalize tm.getD 63 undef = u63 at hz
    generalize tm.getD 64 undef = u64 at hz
    generalize tm.getD 65 undef = u65 at hz
    generalize tm.getD 66 undef = u66 at hz
    generalize tm.getD 67 undef = u67 at hz
    generalize tm.getD 68 undef = u68 at hz
    generalize tm.getD 69 undef = u69 at hz
    generalize tm.getD 70 undef = u70 at hz
    generalize tm.getD 71 undef = u71 at hz
    generalize tm.getD 72 undef = u72 at hz
    generalize tm.getD 73 undef = u73 at hz
    generalize tm.getD 74 undef = u74 at hz
    subst hz hd
    rw [HT5.out]
    have c4 : W1.cell? ⟨w.heap.size, 0, none⟩ = some (.int .i64 3) := (HW1.out.cell (p := ⟨w.heap.size, 0, none⟩) hB).trans HX.out
    have hlt := Nat.lt_of_lt_of_le hB HW1.out.size
    have HT := hidden (row_tail (HROW.out.below HW1.out) HN.out (Nat.le_trans HL.out HW1.out.size))
    have HW2 := hidden ((HB.out.mono HL0.out).trans (HW1.out.mono HL.out))
    clear c0 c1 c2 c3
    go_wp2
    go_region_law (refine step_append_lies _ rfl _ _ 40 rfl base 43 i0 (.agg #[.string ⟨#[]⟩, .int .i64 0]) 2 24 Tryd.underlying40 HI.out HZ.out.1 HZ.out.2.1 HZ.out.2.2 rfl (by decide) _ _ (shCells r) rfl (HT.out.1 _ (by go_grown)) ⟨W1.heap.size, 0, none⟩ 1 1 [.string (txt te), .int .i64 3] rfl rfl (news_new (by simp)) (fun u hu => show_cells1 hu) (by decide) K3.out K4.out (HT.out.2.2 _ (by go_grown)) _ rfl ?_; intro g5 cap5 w5 hown5 hgrow5 hlie5 hlt5; have HF := hidden hown5; have HG := hidden (HT.out.2.1 _ _ (by go_grown) hgrow5); clear hown5 hgrow5 hlie5 hlt5)
    all_goals
      go_wp2
      go_ret
      exact ⟨_, rfl, RowS.more2 HF.out HN.out HTE.out rfl, HW2.out.trans HG.out⟩
end Go.Proofs.YthiiinbkkjacbaaDoor
