/- TxtShowsW, TxtBackW, TxtAgainM, TxtAgainW, put together. -/
import Derived.Test.YthiiinbkkjacbaaDoorRt17
import Derived.Test.YthiiinbkkjacbaaDoorRt18
import Derived.Test.YthiiinbkkjacbaaDoorRt12
/- The walk of the first statement. -/
namespace Go.Proofs.YthiiinbkkjacbaaDoor
open Go.RowKit Go.Lib Go.Joins

theorem SlX.later {w W : World} {v : Value} {L : List Stp} (h : SlX (fun b => b < w.heap.size) w v L) (hb : Below w.heap.size w W) : SlX (fun b => b < W.heap.size) W v L := h.below fun b hlt => ⟨Nat.lt_of_lt_of_le hlt hb.size, hb.block b hlt⟩
theorem fit_wide {s : Stp} (h : s.fit) : s.wide := h.2
set_option maxHeartbeats 4000000 in
set_option maxRecDepth 100000 in
theorem walkShows (a0 : Option Addr) (len0 cap0 : Nat) (L : List Stp) (f : Nat → Bool) (w : World) (h : SlX (fun b => b < w.heap.size) w (.slice a0 len0 cap0) L ∧ ∀ s ∈ L, s.fit) (ht : Tab w ∧ Signs w) :
    Calls Tryd.prog 3 #[.slice a0 len0 cap0, (.agg #[.int .u64 (word (f) 0), .int .u64 (word (f) 1), .int .u64 (word (f) 2), .int .u64 (word (f) 3)])] w fun e w' => e = .returned (.bool true) ∧ Below w.heap.size w w' := by
  obtain ⟨hX, hfit⟩ := h
  have hlen : len0 = L.length := by
    obtain ⟨a, c, e, _⟩ := hX
    simp only [Value.slice.injEq] at e
    exact e.2.1
  have hwide : ∀ s ∈ L, s.wide := fun s hs => fit_wide (hfit s hs)
  have hB0 := (Below.refl w.heap.size w).alloc (Nat.le_refl _) (.cells #[.int .u64 (word (f) 0), .int .u64 (word (f) 1), .int .u64 (word (f) 2), .int .u64 (word (f) 3)] 25)
  have HK := hidden (fun W (hb : Below w.heap.size w W) => knows_calls W (ht.1.below hb) (ht.2.below hb))
  by_cases h600 : 600 < len0
  · have q0 : decide ((600 : Int) < (len0 : Nat)) = true := decide_eq_true (by omega)
    have HB0 := hidden hB0
    clear hX hfit hlen hwide hB0 ht h600
    go_enter Tryd.func3, Tryd.ntmps3
    go_wp2_with fail
    refine (HK.out _ HB0.out).mono ?_
    rintro e w1 ⟨rfl, hb1⟩
    go_wp2
    go_ret
    exact ⟨rfl, below_after HB0.out hb1⟩
  · have q0 : decide ((600 : Int) < (len0 : Nat)) = false := decide_eq_false (by omega)
    have hT : ∃ T : ByteArray, (∀ W, Below w.heap.size w W → Calls Tryd.prog 7 #[.slice a0 len0 cap0] W fun e w' => e = .returned (.string T) ∧ Below W.heap.size W w') ∧
        (∀ W, Below w.heap.size w W → Calls Tryd.prog 8 #[.slice a0 len0 cap0] W fun e w' => e = .returned (.string T) ∧ Below W.heap.size W w') := by
      by_cases hm : (measV L).2 = 0
      · obtain ⟨_, hE⟩ := meas_expr hm
        obtain ⟨_, hok, hops⟩ := tree_of hE hwide
        exact ⟨txt (showL L), fun W hb => show_slX (hX.later hb) (fun b hb => hb) (ht.1.below hb) (ht.2.below hb) hm hwide, fun W hb => rshow_slX (hX.later hb) (fun b hb => hb) hm hok hops⟩
      · exact ⟨⟨#[]⟩, fun W hb => show_none (hX.later hb) (fun b hb => hb) hm, fun W hb => rshow_none (hX.later hb) hm⟩
    obtain ⟨T, hT1, hT2⟩ := hT
    have HT1 := hidden hT1
    have HT2 := hidden hT2
    have HS1 := hidden (fun W (hb : Below w.heap.size w W) => showSet_calls f W (ht.1.below hb))
    have HS2 := hidden (fun W => rshowSet_calls f W)
    have hq := text_same T
    have hq2 := text_same (txt (shSet f))
    have HB0 := hidden hB0
    have hA := SetAt.new w f
    have hlt := hA.lt
    obtain ⟨d0, d1, d2, d3, _⟩ := hA.facts
    generalize txt (shSet f) = T2 at *
    clear hX hfit hlen hwide hB0 ht h600 hT1 hT2 hA
    go_enter Tryd.func3, Tryd.ntmps3
    go_wp2
    have k0 := fun p : Later (w.alloc (.cells #[.int .u64 (word (f) 0), .int .u64 (word (f) 1), .int .u64 (word (f) 2), .int .u64 (word (f) 3)] 25)) => Later.cell d0 hlt p
    have k1 := fun p : Later (w.alloc (.cells #[.int .u64 (word (f) 0), .int .u64 (word (f) 1), .int .u64 (word (f) 2), .int .u64 (word (f) 3)] 25)) => Later.cell d1 hlt p
    have k2 := fun p : Later (w.alloc (.cells #[.int .u64 (word (f) 0), .int .u64 (word (f) 1), .int .u64 (word (f) 2), .int .u64 (word (f) 3)] 25)) => Later.cell d2 hlt p
    have k3 := fun p : Later (w.alloc (.cells #[.int .u64 (word (f) 0), .int .u64 (word (f) 1), .int .u64 (word (f) 2), .int .u64 (word (f) 3)] 25)) => Later.cell d3 hlt p
    refine wp_region_later (by kernel_rfl) (by kernel_rfl) ?_
    repeat (go_big_quiet_step (first | exact Later.calls (HT1.out _ (below_after HB0.out (Later.ok _))) | exact Later.calls (HT2.out _ (below_after HB0.out (Later.ok _))) | exact Later.calls (HS1.out _ (below_after HB0.out (Later.ok _))) | exact Later.calls (HS2.out _) | exact Later.calls (HK.out _ (below_after HB0.out (Later.ok _)))))
    refine wpQuiet_nil ?_
    rintro _ ⟨⟨w2, hb2⟩, rfl⟩
    go_wp2
    go_ret
    exact ⟨rfl, below_after HB0.out hb2⟩
end Go.Proofs.YthiiinbkkjacbaaDoor

/- The walk of the second statement. -/
namespace Go.Proofs.YthiiinbkkjacbaaDoor
open Go.RowKit Go.Lib Go.Joins

theorem read_long (T : ByteArray) (w : World) (hs : Signs w) (h : 4096 < T.size) :
    Calls Tryd.prog 12 #[.string T] w fun e w' => (∃ v, e = .returned (.tuple #[v, .int .i64 0, .int .i64 4]) ∧ RowX w' w.heap.size v []) ∧ Below w.heap.size w w' := by
  refine (read_calls T w hs).mono ?_
  rintro e w' ⟨⟨v, he, hv⟩, hb⟩
  rw [readR_long (l := T.data.toList) (by simpa using h)] at he hv
  exact ⟨⟨v, he, hv⟩, hb⟩
theorem read_back {L : List Stp} (hok : (treeE L).ok) (hops : ops (treeE L) = L) (hl : L.length ≤ 512) (h : (showL L).length ≤ 4096) : readR (showL L) = (L, (showL L).length, 0) := by
  rw [readR_some (l := showL L) (by omega) (show_read (treeE L) hok) rfl, hops, if_neg (by omega)]
  rfl
theorem read_fine {T : ByteArray} {L : List Stp} (w : World) (hs : Signs w) (h : readR T.data.toList = (L, T.size, 0)) :
    Calls Tryd.prog 12 #[.string T] w fun e w' => (∃ v, e = .returned (.tuple #[v, .int .i64 (T.size : Nat), .int .i64 0]) ∧ RowX w' w.heap.size v L) ∧ Below w.heap.size w w' := by
  refine (read_calls T w hs).mono ?_
  rintro e w' ⟨⟨v, he, hv⟩, hb⟩
  rw [h] at he hv
  exact ⟨⟨v, he, hv⟩, hb⟩
set_option maxHeartbeats 4000000 in
set_option maxRecDepth 100000 in
theorem walkBack (a0 : Option Addr) (len0 cap0 : Nat) (L : List Stp) (w : World) (h : SlX (fun b => b < w.heap.size) w (.slice a0 len0 cap0) L ∧ ∀ s ∈ L, s.fit) (ht : Tab w ∧ Signs w) :
    Calls Tryd.prog 4 #[.slice a0 len0 cap0] w fun e w' => e = .returned (.bool true) ∧ Below w.heap.size w w' := by
  obtain ⟨hX, hfit⟩ := h
  have hlen : len0 = L.length := by
    obtain ⟨a, c, e, _⟩ := hX
    simp only [Value.slice.injEq] at e
    exact e.2.1
  have hwide : ∀ s ∈ L, s.wide := fun s hs => fit_wide (hfit s hs)
  have HK := hidden (fun W (hb : Below w.heap.size w W) => knows_calls W (ht.1.below hb) (ht.2.below hb))
  by_cases h200 : 200 < len0
  · have q0 : decide ((200 : Int) < (len0 : Nat)) = true := decide_eq_true (by omega)
    clear hX hfit hlen hwide ht h200
    go_enter Tryd.func4, Tryd.ntmps4
    go_wp2_with fail
    refine (HK.out _ (Below.refl _ _)).mono ?_
    rintro e w1 ⟨rfl, hb1⟩
    go_wp2
    go_ret
    exact ⟨rfl, hb1⟩
  · have q0 : decide ((200 : Int) < (len0 : Nat)) = false := decide_eq_false (by omega)
    have HC := hidden (rcheck_slX hX)
    by_cases hm : (measV L).2 = 0
    · obtain ⟨_, hE⟩ := meas_expr hm
      obtain ⟨_, hok, hops⟩ := tree_of hE hwide
      have HT1 := hidden (fun W (hb : Below w.heap.size w W) => show_slX (hX.later hb) (fun b hb => hb) (ht.1.below hb) (ht.2.below hb) hm hwide)
      have HX := hidden (fun W (hb : Below w.heap.size w W) => hX.later hb)
      have hback := read_back hok hops (by omega)
      obtain ⟨T, hT⟩ : ∃ T, T = txt (showL L) := ⟨_, rfl⟩
      have hsz : T.size = (showL L).length := by rw [hT, txt_size]
      have hli : T.data.toList = showL L := by rw [hT, list_txt]
      rw [← hsz, ← hli] at hback
      rw [← hT] at HT1
      rw [hm] at HC
      have HSg := hidden ht.2
      by_cases hl : 4096 < T.size
      · have HR := hidden (fun W (hb : Below w.heap.size w W) => read_long T W (HSg.out.below hb) hl)
        have q1 : decide ((4096 : Int) < (T.size : Nat)) = true := decide_eq_true (by omega)
        clear hX hfit hlen hwide ht h200 hback hE hok hops hm hT hsz hli HX HSg hl
        go_enter Tryd.func4, Tryd.ntmps4
        go_wp2_with fail
        refine HC.out.mono ?_
        rintro e w1 ⟨rfl, rfl⟩
        go_wp2_with fail
        refine (HT1.out _ (Below.refl _ _)).mono ?_
        rintro e w1 ⟨rfl, hb1⟩
        have HB1 := hidden hb1
        clear hb1
        go_wp2_with fail
        refine (HR.out _ HB1.out).mono ?_
        rintro e w2 ⟨⟨v, rfl, hv⟩, hb2⟩
        have HB2 := hidden (below_after HB1.out hb2)
        obtain ⟨a, cap, rfl, _⟩ := hv.reads
        clear hv hb2
        go_wp2
        go_ret
        exact ⟨rfl, HB2.out⟩
      · have HR := hidden (fun W (hb : Below w.heap.size w W) => read_fine W (HSg.out.below hb) (hback (by omega)))
        have q1 : decide ((4096 : Int) < (T.size : Nat)) = false := decide_eq_false (by omega)
        clear hX hfit hlen hwide ht h200 hback hE hok hops hm hT hsz hli HSg hl
        go_enter Tryd.func4, Tryd.ntmps4
        go_wp2_with fail
        refine HC.out.mono ?_
        rintro e w1 ⟨rfl, rfl⟩
        go_wp2_with fail
        refine (HT1.out _ (Below.refl _ _)).mono ?_
        rintro e w1 ⟨rfl, hb1⟩
        have HB1 := hidden hb1
        clear hb1
        go_wp2_with fail
        refine (HR.out _ HB1.out).mono ?_
        rintro e w2 ⟨⟨v, rfl, hv⟩, hb2⟩
        have HB2 := hidden (below_after HB1.out hb2)
        have HV := hidden hv.reads
        obtain ⟨a, cap, rfl, _⟩ := hv.reads
        have HS := hidden (rsame_slX (HX.out _ HB2.out) HV.out)
        rw [sameX_yes] at HS
        generalize L.length = n at *
        clear hv hb2 HV
        go_wp2_with fail
        refine HS.out.mono ?_
        rintro e w3 ⟨rfl, hb3⟩
        have HB3 := hidden (below_after HB2.out hb3)
        clear hb3
        go_wp2_with fail
        refine (HK.out _ HB3.out).mono ?_
        rintro e w4 ⟨rfl, hb4⟩
        go_wp2
        go_ret
        exact ⟨rfl, below_after HB3.out hb4⟩
    · generalize (measV L).2 = r at hm HC
      have d2 : (r == 0) = false := by simp [hm]
      have d3 : (r != 0) = true := by simp [hm]
      clear hX hfit hlen hwide ht h200 hm
      go_enter Tryd.func4, Tryd.ntmps4
      go_wp2_with fail
      refine HC.out.mono ?_
      rintro e w1 ⟨rfl, rfl⟩
      go_wp2_with fail
      refine (HK.out _ (Below.refl _ _)).mono ?_
      rintro e w1 ⟨rfl, hb1⟩
      go_wp2
      go_ret
      exact ⟨rfl, hb1⟩
end Go.Proofs.YthiiinbkkjacbaaDoor

/- The text of the steps of a tree is the tree's. Of no program. -/
namespace Go.Proofs.YthiiinbkkjacbaaDoor

theorem shSet_congr {f g : Nat → Bool} (h : ∀ n, n < 256 → f n = g n) : shSet f = shSet g := by
  have e1 := elems_congr h
  have e2 := runs_congr h
  have e3 : runs (fNot f) = runs (fNot g) := runs_congr fun n hn => by simp [fNot, h n hn]
  have e4 : sameSet f fDot = sameSet g fDot := by
    unfold sameSet
    rw [word_ext h 0 (by decide), word_ext h 1 (by decide), word_ext h 2 (by decide), word_ext h 3 (by decide)]
  unfold shSet others
  rw [e1, e2, e3, e4]
theorem sStp_wide (f : Nat → Bool) : (sStp f).wide := by
  have h0 := word_lt f 0
  have h1 := word_lt f 1
  have h2 := word_lt f 2
  have h3 := word_lt f 3
  exact ⟨by simp only [sStp]; omega, by simp only [sStp]; omega, by simp only [sStp]; omega, by simp only [sStp]; omega⟩
theorem bitsE_sStp (f : Nat → Bool) (n : Nat) (hn : n < 256) : bitsE (sStp f) n = f n := by
  have h := bitsE_step (s := sStp f) rfl (sStp_wide f)
  have h' := congrArg Stp.a h
  have h1 := congrArg Stp.b h
  have h2 := congrArg Stp.c h
  have h3 := congrArg Stp.d h
  generalize bitsE (sStp f) = g at *
  simp only [sStp] at h' h1 h2 h3
  refine (word_inj (f := f) (g := g) (fun i hi => ?_) n hn).symm
  match i, hi with
  | 0, _ => omega
  | 1, _ => omega
  | 2, _ => omega
  | 3, _ => omega
def nrmE : Ex → Ex
  | .set f => .set (bitsE (sStp f))
  | .emp => .emp
  | .cat a b => .cat (nrmE a) (nrmE b)
  | .alt a b => .alt (nrmE a) (nrmE b)
  | .un k a => .un k (nrmE a)
theorem nrm_kind (e : Ex) : (nrmE e).kind = e.kind := by cases e <;> rfl
theorem nrm_show : ∀ e : Ex, showE (nrmE e) = showE e
  | .set f => shSet_congr (bitsE_sStp f)
  | .emp => rfl
  | .cat a b => by simp only [nrmE, showE, nrm_kind, nrm_show a, nrm_show b]
  | .alt a b => by simp only [nrmE, showE, nrm_kind, nrm_show a, nrm_show b]
  | .un k a => by simp only [nrmE, showE, nrm_kind, nrm_show a]
theorem go_ops : ∀ e : Ex, e.ok → ∀ t, treeGo (ops e) t = nrmE e :: t
  | .set f, _, t => by simp [ops, treeGo, pushE, sStp, nrmE]
  | .emp, _, t => by simp [ops, treeGo, pushE, kStp, nrmE]
  | .cat a b, ⟨ha, hb⟩, t => by
    simp only [ops]
    rw [treeGo_append, treeGo_append, go_ops a ha, go_ops b hb]
    simp [treeGo, pushE, kStp, nrmE]
  | .alt a b, ⟨ha, hb⟩, t => by
    simp only [ops]
    rw [treeGo_append, treeGo_append, go_ops a ha, go_ops b hb]
    simp [treeGo, pushE, kStp, nrmE]
  | .un k a, ⟨hk, ha⟩, t => by
    simp only [ops]
    rw [treeGo_append, go_ops a ha]
    rcases hk with rfl | rfl | rfl <;> simp [treeGo, pushE, kStp, nrmE]
theorem showL_ops {e : Ex} (he : e.ok) : showL (ops e) = showE e := by
  unfold showL treeE
  rw [go_ops e he]
  exact nrm_show e
end Go.Proofs.YthiiinbkkjacbaaDoor

/- The walk of the third statement. -/
namespace Go.Proofs.YthiiinbkkjacbaaDoor
open Go.RowKit Go.Lib Go.Joins

theorem star_read (s : ByteArray) (w : World) (hs : Signs w) (h : s.size ≤ 600) :
    Calls Tryd.prog 12 #[.string (⟨#[42]⟩ ++ s)] w fun e w' => (∃ v, e = .returned (.tuple #[v, .int .i64 0, .int .i64 3]) ∧ RowX w' w.heap.size v []) ∧ Below w.heap.size w w' := by
  have hl : (⟨#[42]⟩ ++ s : ByteArray) = txt (42 :: s.data.toList) := txt_add [42] s.data.toList
  have hlen : s.data.toList.length = s.size := by simp
  rw [hl]
  refine (read_calls _ w hs).mono ?_
  rintro e w' ⟨⟨v, he, hv⟩, hb⟩
  rw [list_txt, readR_none (l := 42 :: s.data.toList) (by simp only [List.length_cons]; omega) (read_star _) rfl] at he hv
  exact ⟨⟨v, he, hv⟩, hb⟩
/-- what is read of a short text: nothing, or the steps of a tree whose text is not too long -/
theorem again_cases (s : ByteArray) (h : s.size ≤ 600) :
    (∃ n k, readR s.data.toList = ([], n, k) ∧ n ≤ s.size ∧ k ≠ 0) ∨
    (∃ e : Ex, e.ok ∧ (ops e).length ≤ 512 ∧ readR s.data.toList = (ops e, s.size, 0) ∧ (showL (ops e)).length ≤ 4096) := by
  have hlen : s.data.toList.length = s.size := by simp
  generalize s.data.toList = l at *
  obtain ⟨r, n⟩ : ∃ r, r = readV l := ⟨_, rfl⟩
  have h4 : ¬ 4096 < l.length := by omega
  obtain ⟨a, b⟩ := r
  cases a with
  | none => exact .inl ⟨b, 3, readR_none h4 n.symm rfl, by have := read_none_le n.symm; omega, by decide⟩
  | some st =>
    have hr := readR_some h4 n.symm rfl
    obtain ⟨hn, e, he, rfl, hb⟩ := read_tree n.symm
    by_cases h5 : 512 < (ops e).length
    · rw [if_pos h5] at hr
      exact .inl ⟨0, 4, hr, by omega, by decide⟩
    · rw [if_neg h5] at hr
      refine .inr ⟨e, he, by omega, ?_, ?_⟩
      · rw [hr]
        simp only [Prod.mk.injEq, true_and, and_true]
        omega
      · rw [showL_ops he]
        omega
theorem read_out {s : ByteArray} {L : List Stp} {n : Nat} {k : Int} (w : World) (hs : Signs w) (h : readR s.data.toList = (L, n, k)) :
    Calls Tryd.prog 12 #[.string s] w fun e w' => (∃ v, e = .returned (.tuple #[v, .int .i64 (n : Nat), .int .i64 k]) ∧ RowX w' w.heap.size v L) ∧ Below w.heap.size w w' := by
  refine (read_calls s w hs).mono ?_
  rintro e w' ⟨⟨v, he, hv⟩, hb⟩
  rw [h] at he hv
  exact ⟨⟨v, he, hv⟩, hb⟩
set_option maxHeartbeats 4000000 in
set_option maxRecDepth 100000 in
theorem walkAgain (s : ByteArray) (w : World) (hsz : s.size ≤ maxLen) (ht : Tab w ∧ Signs w) :
    Calls Tryd.prog 5 #[.string s] w fun e w' => e = .returned (.bool true) ∧ Below w.heap.size w w' := by
  unfold maxLen at hsz
  have HK := hidden (fun W (hb : Below w.heap.size w W) => knows_calls W (ht.1.below hb) (ht.2.below hb))
  by_cases h600 : 600 < s.size
  · have q0 : decide ((600 : Int) < (s.size : Nat)) = true := decide_eq_true (by omega)
    clear ht h600
    go_enter Tryd.func5, Tryd.ntmps5
    go_wp2_with fail
    refine (HK.out _ (Below.refl _ _)).mono ?_
    rintro e w1 ⟨rfl, hb1⟩
    go_wp2
    go_ret
    exact ⟨rfl, hb1⟩
  · have q0 : decide ((600 : Int) < (s.size : Nat)) = false := decide_eq_false (by omega)
    have HS := hidden (star_read s w ht.2 (by omega))
    have HT := hidden ht.1
    have HSg := hidden ht.2
    have hcs := again_cases s (by omega)
    have hsz2 : s.size ≤ 600 := by omega
    clear ht h600
    rcases hcs with ⟨n, k, hr, hn, hk⟩ | ⟨x, hx, h5, hr, hl⟩
    · have HR := hidden (fun W (hb : Below w.heap.size w W) => read_out W (HSg.out.below hb) hr)
      have q1 : (k == 0) = false := by simp [hk]
      have q2 : (k != 0) = true := by simp [hk]
      have q3 : decide ((0 : Int) ≤ (n : Nat)) = true := decide_eq_true (by omega)
      have q4 : decide ((n : Int) ≤ (s.size : Nat)) = true := decide_eq_true (by omega)
      have q5 : decide (n ≤ s.size) = true := decide_eq_true (by omega)
      clear hr hk hn
      go_enter Tryd.func5, Tryd.ntmps5
      go_wp2_with fail
      refine HS.out.mono ?_
      rintro e w1 ⟨⟨v, rfl, _⟩, hb1⟩
      have HB1 := hidden hb1
      clear hb1
      go_wp2_with fail
      refine (HR.out _ HB1.out).mono ?_
      rintro e w2 ⟨⟨v2, rfl, hv2⟩, hb2⟩
      have HB2 := hidden (below_after HB1.out hb2)
      obtain ⟨a, cap, rfl, _⟩ := hv2.reads
      clear hv2 hb2
      go_wp2_with fail
      refine (HK.out _ HB2.out).mono ?_
      rintro e w3 ⟨rfl, hb3⟩
      go_wp2
      go_ret
      exact ⟨rfl, below_after HB2.out hb3⟩
    · have HR := hidden (fun W (hb : Below w.heap.size w W) => read_out W (HSg.out.below hb) hr)
      have hm := ops_meas hx h5
      have hw := ops_wide x
      obtain ⟨_, hok, hops⟩ := tree_of (ops_expr x hx) hw
      have hback := read_back hok hops h5 hl
      generalize ops x = L at *
      obtain ⟨T, hT⟩ : ∃ T, T = txt (showL L) := ⟨_, rfl⟩
      have hsz : T.size = (showL L).length := by rw [hT, txt_size]
      have hli : T.data.toList = showL L := by rw [hT, list_txt]
      rw [← hsz, ← hli] at hback
      have HR2 := hidden (fun W (hb : Below w.heap.size w W) => read_fine W (HSg.out.below hb) hback)
      have HSh := hidden (fun (W : World) (b : Nat) (v : Value) (h : ReadsX W b v L) (hb : Below w.heap.size w W) => show_slX h (fun b hb => hb.2) (HT.out.below hb) (HSg.out.below hb) hm hw)
      rw [← hT] at HSh
      have HC := hidden (fun (W : World) (b : Nat) (v : Value) (h : ReadsX W b v L) => rcheck_slX h)
      rw [hm] at HC
      have HSm := hidden (fun (W : World) (b b' : Nat) (v v' : Value) (h : ReadsX W b v L) (h' : ReadsX W b' v' L) => rsame_slX h h')
      rw [sameX_yes] at HSm
      clear hr hm hw hok hops hback hT hsz hli hl h5 hx
      go_enter Tryd.func5, Tryd.ntmps5
      go_wp2_with fail
      refine HS.out.mono ?_
      rintro e w1 ⟨⟨v, rfl, _⟩, hb1⟩
      have HB1 := hidden hb1
      clear hb1
      go_wp2_with fail
      refine (HR.out _ HB1.out).mono ?_
      rintro e w2 ⟨⟨v2, rfl, hv2⟩, hb2⟩
      have HB2 := hidden (below_after HB1.out hb2)
      have HV2 := hidden hv2.reads
      obtain ⟨a, cap, rfl, _⟩ := hv2.reads
      clear hv2 hb2
      generalize L.length = n at *
      go_wp2_with fail
      refine (HSh.out _ _ _ HV2.out HB2.out).mono ?_
      rintro e w3 ⟨rfl, hb3⟩
      have HB3 := hidden (below_after HB2.out hb3)
      have HV3 := hidden (HV2.out.kept hb3)
      clear hb3 HV2
      go_wp2_with fail
      refine (HR2.out _ HB3.out).mono ?_
      rintro e w4 ⟨⟨v4, rfl, hv4⟩, hb4⟩
      have HB4 := hidden (below_after HB3.out hb4)
      have HV4 := hidden (HV3.out.kept hb4)
      have HW := hidden hv4.reads
      clear hv4 hb4 HV3
      go_wp2_with fail
      refine (HC.out _ _ _ HV4.out).mono ?_
      rintro e w5 ⟨rfl, rfl⟩
      go_wp2_with fail
      refine (HSm.out _ _ _ _ _ HV4.out HW.out).mono ?_
      rintro e w5 ⟨rfl, hb5⟩
      have HB5 := hidden (below_after HB4.out hb5)
      clear hb5
      go_wp2_with fail
      refine (HK.out _ HB5.out).mono ?_
      rintro e w6 ⟨rfl, hb6⟩
      go_wp2
      go_ret
      exact ⟨rfl, below_after HB5.out hb6⟩
end Go.Proofs.YthiiinbkkjacbaaDoor
