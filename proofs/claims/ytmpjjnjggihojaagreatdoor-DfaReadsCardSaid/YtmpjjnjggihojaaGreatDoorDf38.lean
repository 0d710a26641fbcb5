/- FuMath, FuOpen, FuLaw, FaBoth, put together. -/
import Derived.Test.YtmpjjnjggihojaaGreatDoorDf34
import Derived.Test.YtmpjjnjggihojaaGreatDoorDf21
import Derived.Test.YtmpjjnjggihojaaGreatDoorDf37
import Derived.Test.YtmpjjnjggihojaaGreatDoorDf35
import Derived.Deep.Strs
/- The net of some tokens: where each spot comes from; it is right. Without the program. -/
namespace Go.Proofs.YtmpjjnjggihojaaGreatDoor
open Go.RowKit Go.Lib Go.Joins
theorem fol_mem2 {L : List Stp} (hz : (measV L).2 = 0) {p : Nat} (hp : p < 256) (hpl : plc (treeE L) ≤ 256) (q : Nat) : q ∈ elems (folL (p : Int) L) ↔ gE (treeE L) 0 p q = true := by
  rw [elems_mem]
  unfold folL
  rw [if_pos hz, folG_all p hp]
  have e2 : ((met (treeE L) 0).any fun x => x.1.last p && x.2.first q) = gE (treeE L) 0 p q := met_iff (treeE L) 0 p q
  rw [e2]
  simp only [fNone, Bool.false_or]
  exact ⟨fun h => h.2, fun h => ⟨by have := gE_in _ _ _ _ h; omega, h⟩⟩
theorem mem_first {L : List Stp} (hwd : ∀ s ∈ L, s.wide) {p : Nat} (h : p ∈ elems (prtL L).first) : p < (setsL L).length := by
  unfold prtL at h
  unfold setsL
  by_cases hz : (measV L).2 = 0
  · rw [if_pos hz] at h ⊢
    rw [(expr_plc hz hwd).2]
    have := gF_in _ _ _ ((elems_mem _ _).1 h).2
    omega
  · rw [if_neg hz] at h
    simp [elems_none] at h
theorem mem_fol {L : List Stp} (hwd : ∀ s ∈ L, s.wide) {p q : Nat} (hp : p < 256) (h : q ∈ elems (folL p L)) : q < (setsL L).length := by
  by_cases hz : (measV L).2 = 0
  · have h1 := (fol_mem2 hz hp (expr_plc hz hwd).1 q).1 h
    unfold setsL
    rw [if_pos hz, (expr_plc hz hwd).2]
    have := gE_in _ _ _ _ h1
    omega
  · unfold folL at h
    rw [if_neg hz] at h
    simp [elems_none] at h
/-- a rising list of spots, moved -/
theorem mvd_spI {l : List Nat} {d c : Nat} (h : ∀ p ∈ l, p < c) (hd : d + c ≤ 1000000) : mvd (spI l) d = spI (l.map (d + ·)) := by
  rw [mvd_small]
  · unfold spI
    rw [List.map_map, List.map_map]
    refine List.map_congr_left fun p _ => ?_
    simp only [Function.comp_apply]
    omega
  · intro x hx
    obtain ⟨p, rfl, hp⟩ := (mem_spIZ _ _).1 hx
    have := h p hp
    omega
theorem spots_spI {l : List Nat} {n : Nat} (hu : l.Pairwise (· < ·)) (hl : ∀ p ∈ l, p < n) : spotsB (spI l) n = true := by
  unfold spotsB upB
  rw [Bool.and_eq_true, List.all_eq_true]
  refine ⟨decide_eq_true (spI_up hu), fun x hx => ?_⟩
  obtain ⟨p, rfl, hp⟩ := (mem_spIZ _ _).1 hx
  have := hl p hp
  simp only [Bool.and_eq_true, decide_eq_true_eq]
  omega
theorem up_map {l : List Nat} (d : Nat) (h : l.Pairwise (· < ·)) : (l.map (d + ·)).Pairwise (· < ·) := by
  rw [List.pairwise_map]
  exact h.imp fun h => by omega
/-- where a token's spots begin -/
def offT (T : List (List Stp)) (k : Nat) : Nat := (fuseK T k).sets.length
/-- how many it has -/
def cntT (T : List (List Stp)) (k : Nat) : Nat := (setsL (T.getD k [])).length
theorem offT_more (T : List (List Stp)) (k : Nat) : offT T (k + 1) = offT T k + cntT T k := by
  unfold offT cntT
  rw [fuseK_more]
  simp [addM]
theorem offT_le (T : List (List Stp)) {k n : Nat} (h : k ≤ n) : offT T k ≤ offT T n := by
  induction n with
  | zero => simp [show k = 0 by omega]
  | succ n ih =>
    by_cases e : k = n + 1
    · subst e; exact Nat.le_refl _
    · have := ih (by omega)
      rw [offT_more]
      omega
theorem offT_lt (T : List (List Stp)) {k n p : Nat} (h : k < n) (hp : p < cntT T k) : offT T k + p < offT T n := by
  have := offT_le T (show k + 1 ≤ n by omega)
  rw [offT_more] at this
  omega
theorem fuse_lens (T : List (List Stp)) : ∀ n, (fuseK T n).of.length = offT T n ∧ (fuseK T n).last.length = offT T n ∧ (fuseK T n).fol.length = offT T n
  | 0 => by simp [fuseK, offT]
  | n + 1 => by
    obtain ⟨h1, h2, h3⟩ := fuse_lens T n
    rw [offT_more, fuseK_more]
    simp [addM, h1, h2, h3, cntT]
theorem fuse_split (T : List (List Stp)) : ∀ n q, q < offT T n → ∃ k p, k < n ∧ p < cntT T k ∧ q = offT T k + p
  | 0, q, h => by simp [offT, fuseK] at h
  | n + 1, q, h => by
    by_cases hq : q < offT T n
    · obtain ⟨k, p, h1, h2, h3⟩ := fuse_split T n q hq
      exact ⟨k, p, by omega, h2, h3⟩
    · rw [offT_more] at h
      exact ⟨n, q - offT T n, by omega, by omega, by omega⟩
/-- what is known of one spot -/
structure SpotAt (N : NetM) (T : List (List Stp)) (k p : Nat) : Prop where
  set : N.sets.getD (offT T k + p) default = (setsL (T.getD k [])).getD p default
  of : N.of.getD (offT T k + p) 0 = k
  last : N.last.getD (offT T k + p) false = decide ((p : Int) ∈ spI (elems (prtL (T.getD k [])).last))
  fol : N.fol.getD (offT T k + p) [] = mvd (spI (elems (folL p (T.getD k [])))) (offT T k)
theorem getD_left {α : Type} (a b : List α) (i : Nat) (d : α) (h : i < a.length) : (a ++ b).getD i d = a.getD i d := by
  rw [List.getD_eq_getElem?_getD, List.getD_eq_getElem?_getD, List.getElem?_append_left h]
theorem getD_right {α : Type} (a b : List α) (n i : Nat) (d : α) (h : a.length = n) : (a ++ b).getD (n + i) d = b.getD i d := by
  rw [List.getD_eq_getElem?_getD, List.getD_eq_getElem?_getD, List.getElem?_append_right (by omega), show n + i - a.length = i by omega]
theorem getD_map_range {α : Type} (f : Nat → α) (c i : Nat) (d : α) (h : i < c) : ((List.range c).map f).getD i d = f i := by
  rw [List.getD_eq_getElem?_getD, List.getElem?_map, List.getElem?_range h]
  rfl
theorem fuse_at (T : List (List Stp)) : ∀ n k p, k < n → p < cntT T k → SpotAt (fuseK T n) T k p
  | 0, k, p, h, _ => by omega
  | n + 1, k, p, h, hp => by
    obtain ⟨h1, h2, h3⟩ := fuse_lens T n
    rw [fuseK_more]
    by_cases hk : k < n
    · have ih := fuse_at T n k p hk hp
      have hlt := offT_lt T hk hp
      refine ⟨?_, ?_, ?_, ?_⟩
      · rw [← ih.set]; exact getD_left _ _ _ _ hlt
      · rw [← ih.of]; exact getD_left _ _ _ _ (by omega)
      · rw [← ih.last]; exact getD_left _ _ _ _ (by omega)
      · rw [← ih.fol]; exact getD_left _ _ _ _ (by omega)
    · obtain rfl : k = n := by omega
      refine ⟨getD_right _ _ _ _ _ rfl, ?_, ?_, ?_⟩
      · show ((fuseK T k).of ++ List.replicate _ _).getD _ _ = _
        rw [getD_right _ _ _ _ _ h1, List.getD_eq_getElem?_getD, List.getElem?_replicate, if_pos (show p < (setsL (T.getD k [])).length from hp)]
        rfl
      · show ((fuseK T k).last ++ _).getD _ _ = _
        rw [getD_right _ _ _ _ _ h2]
        exact getD_map_range (fun i : Nat => decide ((i : Int) ∈ spI (elems (prtL (T.getD k [])).last))) _ _ _ hp
      · show ((fuseK T k).fol ++ _).getD _ _ = _
        rw [getD_right _ _ _ _ _ h3]
        exact getD_map_range (fun i : Nat => mvd (spI (elems (folL i (T.getD k [])))) (fuseK T k).sets.length) _ _ _ hp
theorem offT_bound {T : List (List Stp)} (h : FewT T) {k : Nat} (hk : k ≤ 12) : offT T k ≤ k * 256 := (fuseK_len h k hk).1
theorem cntT_bound {T : List (List Stp)} (h : FewT T) (k : Nat) : cntT T k ≤ 90 := Nat.le_trans (setsL_len _) (h.each k)
theorem fuse_first {T : List (List Stp)} (hT : FewT T) : ∀ n, n ≤ 12 → ∃ l : List Nat, (fuseK T n).first = spI l ∧ l.Pairwise (· < ·) ∧ ∀ q, q ∈ l ↔ ∃ k p, k < n ∧ p ∈ elems (prtL (T.getD k [])).first ∧ q = offT T k + p
  | 0, _ => ⟨[], by simp [fuseK, spI], .nil, fun q => by simp⟩
  | n + 1, hn => by
    obtain ⟨l, h1, h2, h3⟩ := fuse_first hT n (by omega)
    have hin : ∀ p ∈ elems (prtL (T.getD n [])).first, p < cntT T n := fun p hp => mem_first (hT.wide n) hp
    have hb := offT_bound hT (show n ≤ 12 by omega)
    have hc := cntT_bound hT n
    refine ⟨l ++ (elems (prtL (T.getD n [])).first).map (offT T n + ·), ?_, ?_, fun q => ?_⟩
    · rw [fuseK_more]
      show (fuseK T n).first ++ mvd (spI (elems (prtL (T.getD n [])).first)) ((fuseK T n).sets.length : Nat) = _
      rw [h1, show (fuseK T n).sets.length = offT T n from rfl, mvd_spI hin (by omega), spI_append]
    · rw [List.pairwise_append]
      refine ⟨h2, up_map _ (elems_up _), fun a ha b hb' => ?_⟩
      obtain ⟨k, p, hk, hp, rfl⟩ := (h3 a).1 ha
      obtain ⟨r, _, rfl⟩ := List.mem_map.1 hb'
      have := offT_lt T hk (mem_first (hT.wide k) hp)
      omega
    · rw [List.mem_append, h3, List.mem_map]
      constructor
      · rintro (⟨k, p, hk, hp, rfl⟩ | ⟨p, hp, rfl⟩)
        · exact ⟨k, p, by omega, hp, rfl⟩
        · exact ⟨n, p, by omega, hp, rfl⟩
      · rintro ⟨k, p, hk, hp, rfl⟩
        by_cases e : k < n
        · exact .inl ⟨k, p, e, hp, rfl⟩
        · obtain rfl : k = n := by omega
          exact .inr ⟨p, hp, rfl⟩
theorem fuse_right {T : List (List Stp)} (hT : FewT T) {n : Nat} (hn : n ≤ 12) : rightB (fuseK T n) = true := by
  obtain ⟨h1, h2, h3⟩ := fuse_lens T n
  refine rightB_all ⟨h1, h2, h3⟩ ?_ fun q hq => ?_
  · obtain ⟨l, e, hu, hm⟩ := fuse_first hT n hn
    rw [e]
    refine spots_spI hu fun q hq => ?_
    obtain ⟨k, p, hk, hp, rfl⟩ := (hm q).1 hq
    exact offT_lt T hk (mem_first (hT.wide k) hp)
  · obtain ⟨k, p, hk, hp, rfl⟩ := fuse_split T n q hq
    have hs := fuse_at T n k p hk hp
    have hb := offT_bound hT (show k ≤ 12 by omega)
    have hc := cntT_bound hT k
    have hin : ∀ r ∈ elems (folL p (T.getD k [])), r < cntT T k := fun r hr => mem_fol (hT.wide k) (by omega) hr
    unfold rowB
    rw [hs.of, hs.fol, mvd_spI hin (by omega), decide_eq_true (by omega), Bool.true_and]
    refine spots_spI (up_map _ (elems_up _)) fun r hr => ?_
    obtain ⟨x, hx, rfl⟩ := List.mem_map.1 hr
    exact offT_lt T hk (hin x hx)
theorem fuseM_right {T : List (List Stp)} (hT : FewT T) : rightB (fuseM T) = true := by
  rw [← fuseK_all]
  exact fuse_right hT hT.len
/-! ### which spots a word leads to -/
theorem sStp_wide2 (f : Nat → Bool) : (sStp f).wide := by
  have h0 := word_lt f 0
  have h1 := word_lt f 1
  have h2 := word_lt f 2
  have h3 := word_lt f 3
  exact ⟨by simp only [sStp]; omega, by simp only [sStp]; omega, by simp only [sStp]; omega, by simp only [sStp]; omega⟩
theorem bitsE_sStp2 (f : Nat → Bool) (n : Nat) (hn : n < 256) : bitsE (sStp f) n = f n := by
  have h := bitsE_step (s := sStp f) rfl (sStp_wide2 f)
  have h' := congrArg Stp.a h
  have h1 := congrArg Stp.b h
  have h2 := congrArg Stp.c h
  have h3 := congrArg Stp.d h
  generalize bitsE (sStp f) = g at *
  simp only [sStp] at h' h1 h2 h3
  refine (word_inj (f := f) (g := g) (fun i hi => ?_) n hn).symm
  match i, hi with
  | 0, _ => omega
  | 1, _ => omega
  | 2, _ => omega
  | 3, _ => omega
theorem sets_at {L : List Stp} (hz : (measV L).2 = 0) (hwd : ∀ s ∈ L, s.wide) {p c : Nat} (hp : p < (setsL L).length) (hc : c < 256) : bitsE ((setsL L).getD p default) c = gS (treeE L) 0 p c := by
  obtain ⟨h512, hE⟩ := meas_expr hz
  obtain ⟨_, hok, hops⟩ := tree_of hE hwd
  unfold setsL at hp ⊢
  rw [if_pos hz] at hp ⊢
  rw [(expr_plc hz hwd).2] at hp
  obtain ⟨f, h1, h2⟩ := set_at hok hp
  rw [hops] at h1
  rw [h1, h2 c hc, bitsE_sStp2 f c hc]
/-- a spot of a token's that the first bytes lead to -/
def ComeT (T : List (List Stp)) (n : Nat) (W : List Nat) (j q : Nat) : Prop := ∃ k p, k < n ∧ (measV (T.getD k [])).2 = 0 ∧ q = offT T k + p ∧ Come (treeE (T.getD k [])) W j p
theorem cnt_pos {T : List (List Stp)} {k p : Nat} (hp : p < cntT T k) : (measV (T.getD k [])).2 = 0 := by
  unfold cntT setsL at hp
  split at hp
  · assumption
  · simp at hp
theorem come_cnt {T : List (List Stp)} (hT : FewT T) {W : List Nat} {k j p : Nat} (hz : (measV (T.getD k [])).2 = 0) (h : Come (treeE (T.getD k [])) W j p) : p < cntT T k := by
  have := come_lt h
  unfold cntT setsL
  rw [if_pos hz, (expr_plc hz (hT.wide k)).2]
  exact this
theorem run_come {T : List (List Stp)} (hT : FewT T) {n : Nat} (hn : n ≤ 12) (W : List Nat) (hW : ∀ c ∈ W, c < 256) : ∀ j, j < W.length → ∀ q, q ∈ runM (fuseK T n) (W.take (j + 1)) ↔ ComeT T n W (j + 1) q := by
  have hR := fuse_right hT hn
  have hbyte : ∀ j, j < W.length → W.getD j 0 < 256 := fun j hj => hW _ (by
    rw [List.getD_eq_getElem?_getD, List.getElem?_eq_getElem hj]
    exact List.getElem_mem _)
  have hsel : ∀ j, j < W.length → ∀ k p, k < n → p < cntT T k → selB (fuseK T n).sets (W.getD j 0) ((offT T k + p : Nat) : Int) = gS (treeE (T.getD k [])) 0 p (W.getD j 0) := fun j hj k p hk hp => by
    unfold selB
    rw [Int.toNat_natCast, (fuse_at T n k p hk hp).set]
    exact sets_at (cnt_pos hp) (hT.wide k) hp (hbyte j hj)
  intro j
  induction j with
  | zero =>
    intro hj q
    rw [run_first _ _ hj]
    unfold startM
    rw [if_pos hR, hits_mem]
    obtain ⟨l, e, _, hm⟩ := fuse_first hT n hn
    unfold withG ComeT
    rw [Bool.and_eq_true, decide_eq_true_eq, e, mem_spI, hm]
    constructor
    · rintro ⟨hq, ⟨k, p, hk, hp, rfl⟩, hs⟩
      have hpc := mem_first (hT.wide k) hp
      have hz := cnt_pos hpc
      rw [hsel 0 hj k p hk hpc] at hs
      unfold prtL at hp
      rw [if_pos hz] at hp
      exact ⟨k, p, hk, hz, rfl, (come_more hj p).2 ⟨.inl ⟨rfl, ((elems_mem _ _).1 hp).2⟩, hs⟩⟩
    · rintro ⟨k, p, hk, hz, rfl, hc⟩
      have hpc := come_cnt hT hz hc
      obtain ⟨h1, h2⟩ := (come_more hj p).1 hc
      have hp : p ∈ elems (prtL (T.getD k [])).first := by
        unfold prtL
        rw [if_pos hz, elems_mem]
        have hb := cntT_bound hT k
        rcases h1 with ⟨_, h1⟩ | ⟨r, h1, _⟩
        · exact ⟨by omega, h1⟩
        · exact absurd h1 (come_zero _ _ _)
      exact ⟨offT_lt T hk hpc, ⟨k, p, hk, hp, rfl⟩, by rw [hsel 0 hj k p hk hpc]; exact h2⟩
  | succ j ih =>
    intro hj q
    have ih := ih (by omega)
    rw [runM_more _ _ (j + 1) (by omega) hj]
    unfold stepM
    rw [if_pos hR, hits_mem, Bool.and_eq_true]
    constructor
    · rintro ⟨hq, hnx, hs⟩
      unfold nextB at hnx
      simp only [List.any_eq_true, Bool.and_eq_true, decide_eq_true_eq] at hnx
      obtain ⟨x, hx, _, _, hqf⟩ := hnx
      obtain ⟨y, rfl, hy⟩ := (mem_spIZ _ _).1 hx
      obtain ⟨k, p, hk, hz, rfl, hc⟩ := (ih y).1 hy
      have hpc := come_cnt hT hz hc
      have hb := cntT_bound hT k
      have ho := offT_bound hT (show k ≤ 12 by omega)
      rw [Int.toNat_natCast, (fuse_at T n k p hk hpc).fol, mvd_spI (fun r hr => mem_fol (hT.wide k) (by omega) hr) (c := cntT T k) (by omega), mem_spI] at hqf
      obtain ⟨r, hr, rfl⟩ := List.mem_map.1 hqf
      have hrc : r < cntT T k := mem_fol (hT.wide k) (by omega) hr
      rw [hsel (j + 1) hj k r hk hrc] at hs
      exact ⟨k, r, hk, hz, rfl, (come_more hj r).2 ⟨.inr ⟨p, hc, (fol_mem2 hz (by omega) (expr_plc hz (hT.wide k)).1 r).1 hr⟩, hs⟩⟩
    · rintro ⟨k, r, hk, hz, rfl, hc⟩
      have hrc := come_cnt hT hz hc
      obtain ⟨h1, h2⟩ := (come_more hj r).1 hc
      rcases h1 with ⟨h1, _⟩ | ⟨p, h1, h3⟩
      · omega
      · have hpc := come_cnt hT hz h1
        have hb := cntT_bound hT k
        have ho := offT_bound hT (show k ≤ 12 by omega)
        refine ⟨offT_lt T hk hrc, ?_, by rw [hsel (j + 1) hj k r hk hrc]; exact h2⟩
        unfold nextB
        simp only [List.any_eq_true, Bool.and_eq_true, decide_eq_true_eq]
        have hlt := offT_lt T hk hpc
        refine ⟨((offT T k + p : Nat) : Int), (mem_spIZ _ _).2 ⟨_, rfl, (ih _).2 ⟨k, p, hk, hz, rfl, h1⟩⟩, by omega, by have e : (fuseK T n).sets.length = offT T n := rfl; omega, ?_⟩
        rw [Int.toNat_natCast, (fuse_at T n k p hk hpc).fol, mvd_spI (fun r hr => mem_fol (hT.wide k) (by omega) hr) (c := cntT T k) (by omega), mem_spI]
        exact List.mem_map.2 ⟨r, (fol_mem2 hz (by omega) (expr_plc hz (hT.wide k)).1 r).2 h3, rfl⟩
end Go.Proofs.YtmpjjnjggihojaaGreatDoor

/- Tokens that came in. -/
namespace Go.Proofs.YtmpjjnjggihojaaGreatDoor
open Go.ChangeShapes Go.WideShapes Go.ChangeAt Go.RowKit Go.Deep Go.Joins
set_option maxRecDepth 100000
theorem list3 {α : Type} (l : List α) (h : l.length = 3) : ∃ a b c, l = [a, b, c] := by
  match l, h with
  | [a, b, c], _ => exact ⟨a, b, c, rfl⟩
theorem open_toks {H : Type} {enc : TypeId × Value → H} {W : World} {a : Option Addr} {len cap : Nat} {d : DataW H} {p : List MemPlace}
    (h : DataW.Trod enc Tryz.prog W 0 (fun _ => true) true 43 (.slice a len cap) d p) : ∃ T, Toks (fun b => b < W.heap.size) W (.slice a len cap) T ∧ ∀ i, ∀ s ∈ T.getD i [], s.fit := by
  obtain ⟨fuel, hf⟩ := h
  have hc3 : Tryz.prog.cellsOf 50 = 3 := by kernel_rfl
  have ck : Tryz.prog.cellsOf 9 = 1 := by kernel_rfl
  have cr : Tryz.prog.cellsOf 47 = 1 := by kernel_rfl
  rcases open_slice Tryz.underlying43 hf with ⟨hcs, _⟩ | ⟨ad, len', cap', m, n, D, Pl, hcs, _, hl, hm, hmm, _, hi⟩
  · simp [Value.cells] at hcs
    obtain ⟨rfl, rfl, rfl⟩ := hcs
    exact ⟨[], ⟨none, 0, rfl, Nat.le_refl _, by decide, fun h => absurd h (by simp)⟩, fun i s hs => by simp at hs⟩
  · simp [Value.cells] at hcs
    obtain ⟨rfl, rfl, rfl⟩ := hcs
    have hm' : m = cap := by simpa using hmm
    subst hm'
    have each : ∀ i, i < len → ∃ L : List Stp, (∃ u, W.cell? (ad.add (i * 3 + 1)) = some u ∧ SlX (fun b => b < W.heap.size) W u L) ∧ (∀ s ∈ L, s.fit) ∧ ∃ u, W.cell? (ad.add (i * 3)) = some u := fun i hi' => by
      obtain ⟨cs', hcs', ht⟩ := hi i (by omega)
      rw [hc3] at hcs'
      obtain ⟨_, hlen, hcell⟩ := World.cells?_some hcs'
      obtain ⟨c0, c1, c2, rfl⟩ := list3 cs' hlen
      obtain ⟨y0, y1, y2, n', _, _, h0, h1, h2⟩ := trod_struct3 Tryz.underlying50 ht
      simp [cr] at h1
      obtain ⟨L, hL, hfit⟩ := open_slX h1
      refine ⟨L, ⟨c1, ?_, hL⟩, hfit, c0, ?_⟩
      · have := hcell 1 (by omega)
        rw [Go.Deep.add_add] at this
        simpa using this
      · have := hcell 0 (by omega)
        rw [Go.Deep.add_add] at this
        simpa using this
    obtain ⟨q, hq⟩ := choose_lt each
    have hlen : ((List.range len).map q).length = len := by simp
    have hg : ∀ i, i < len → ((List.range len).map q).getD i [] = q i := fun i hi' => by simp [List.getD_eq_getElem?_getD, hi']
    refine ⟨(List.range len).map q, ⟨some ad, m, by rw [hlen], by rw [hlen]; exact hl, hm, fun hp => ?_⟩, fun i s hs => ?_⟩
    · rw [hlen] at hp ⊢
      obtain ⟨b, off, spot⟩ := ad
      obtain ⟨u0, h0⟩ := (hq 0 hp).2.2
      have hspot : spot = none := by simpa [Addr.add] using World.cell?_spot h0
      subst hspot
      rw [Addr.add_lit] at h0
      refine ⟨b, off, rfl, cell_lt h0, fun i hi' => ?_⟩
      rw [hg i hi']
      obtain ⟨u, hu, hs⟩ := (hq i hi').1
      rw [Addr.add_lit, ← Nat.add_assoc] at hu
      exact ⟨u, hu, hs⟩
    · by_cases hi' : i < len
      · rw [hg i hi'] at hs
        exact (hq i hi').2.1 s hs
      · rw [List.getD_eq_getElem?_getD, List.getElem?_eq_none (by rw [hlen]; omega)] at hs
        simp at hs
theorem Toks.later {w W : World} {v : Value} {T : List (List Stp)} (h : Toks (fun b => b < w.heap.size) w v T) (hb : Below w.heap.size w W) : Toks (fun b => b < W.heap.size) W v T := h.below fun b hlt => ⟨Nat.lt_of_lt_of_le hlt hb.size, hb.block b hlt⟩
end Go.Proofs.YtmpjjnjggihojaaGreatDoor

/- What the laws over tokens know of a world: a net in a box, the tokens, the table. -/
namespace Go.Proofs.YtmpjjnjggihojaaGreatDoor
open Go.RowKit Go.Lib Go.Joins
structure KV (w0 : World) (n0 : Nat) (vs vo vl vf v1 : Value) (N : NetM) (v : Value) (T : List (List Stp)) (w : World) : Prop where
  b : Below w0.heap.size w0 w
  n : w.heap[n0]? = some (.cells #[vs, vo, vl, vf, v1] 27 (0, 0))
  r : RdNet w.heap.size w vs vo vl vf v1 N
  t : Toks (fun b => b < w.heap.size) w v T
  tab : Tab w
theorem KV.more {w0 w w' : World} {n0 : Nat} {vs vo vl vf v1 v : Value} {N : NetM} {T : List (List Stp)} (h : KV w0 n0 vs vo vl vf v1 N v T w) (hb : Below w.heap.size w w') : KV w0 n0 vs vo vl vf v1 N v T w' :=
  ⟨below_after h.b hb, (hb.block n0 (Array.getElem?_eq_some_iff.1 h.n).1).trans h.n, h.r.later hb, h.t.later hb, h.tab.below hb⟩
theorem KV.cells {w0 w : World} {n0 : Nat} {vs vo vl vf v1 v : Value} {N : NetM} {T : List (List Stp)} (h : KV w0 n0 vs vo vl vf v1 N v T w) : w.cell? ⟨n0, 0, none⟩ = some vs ∧ w.cell? ⟨n0, 1, none⟩ = some vo ∧ w.cell? ⟨n0, 2, none⟩ = some vl ∧ w.cell? ⟨n0, 3, none⟩ = some vf ∧ w.cell? ⟨n0, 4, none⟩ = some v1 :=
  ⟨cell_of_row _ _ 0 _ _ _ h.n, cell_of_row _ _ 1 _ _ _ h.n, cell_of_row _ _ 2 _ _ _ h.n, cell_of_row _ _ 3 _ _ _ h.n, cell_of_row _ _ 4 _ _ _ h.n⟩
def Rn (N : NetM) (v : Value) (w : World) : Prop := ∃ us uo ul uf u1, v = .agg #[us, uo, ul, uf, u1] ∧ RdNet w.heap.size w us uo ul uf u1 N
theorem rn_mono (N : NetM) : ∀ v w w', Rn N v w → Below w.heap.size w w' → Rn N v w' := fun _ _ _ ⟨a, b, c, d, e, h1, h2⟩ hb => ⟨a, b, c, d, e, h1, h2.later hb⟩
theorem fuseM_len {T : List (List Stp)} (h : FewT T) : (fuseM T).sets.length ≤ 100000 ∧ (fuseM T).last.length ≤ 100000 ∧ (fuseM T).fol.length ≤ 100000 := by
  rw [← fuseK_all]
  have h1 := fuseK_len h T.length h.len
  have h2 := h.len
  omega
theorem offT_tot {T : List (List Stp)} (h : ∀ i, (T.getD i []).length ≤ 1000) : ∀ k, k ≤ T.length → offT T k ≤ totT (T.take k)
  | 0, _ => by simp [offT, fuseK]
  | k + 1, hk => by
    have ih := offT_tot h k (by omega)
    have h1 := setsL_len (T.getD k [])
    have h2 := h k
    rw [offT_more, totT_more T k (by omega)]
    unfold cntT
    omega
theorem few_sets {T : List (List Stp)} (h : fewB T = true) (hw : ∀ i, ∀ s ∈ T.getD i [], s.wide) : (fuseM T).sets.length ≤ 90 ∧ (fuseM T).first.length ≤ 3072 := by
  have hT := few_yes h hw
  have h1 := offT_tot (fun i => Nat.le_trans (hT.each i) (by omega)) T.length (Nat.le_refl _)
  rw [List.take_length] at h1
  simp only [fewB, Bool.and_eq_true, decide_eq_true_eq] at h
  have h2 := fuseK_len hT T.length hT.len
  rw [fuseK_all] at h2
  have h3 : (fuseM T).sets.length = offT T T.length := rfl
  have := hT.len
  omega
theorem stepM_up (N : NetM) (l : List Int) (b : Nat) : (stepM N l b).Pairwise (· < ·) := by
  unfold stepM
  split
  · exact hits_up _ _
  · exact .nil
theorem startM_up (N : NetM) (b : Nat) : (startM N b).Pairwise (· < ·) := by
  unfold startM
  split
  · exact hits_up _ _
  · exact .nil
theorem runM_up (N : NetM) : ∀ W : List Nat, (runM N W).Pairwise (· < ·)
  | [] => .nil
  | c :: r => by
    have key : ∀ (r l : List Nat), l.Pairwise (· < ·) → (r.foldl (fun l b => stepM N (spI l) b) l).Pairwise (· < ·) := by
      intro r
      induction r with
      | nil => intro l h; exact h
      | cons b r ih => intro l _; exact ih _ (stepM_up _ _ _)
    exact key r _ (startM_up _ _)
theorem byN_app (s t : ByteArray) : byN (s ++ t) = byN s ++ byN t := by
  unfold byN
  rw [ByteArray.data_append, Array.toList_append, List.map_append]
theorem byN_lt2 (s : ByteArray) : ∀ c ∈ byN s, c < 256 := by
  intro c hc
  obtain ⟨u, _, rfl⟩ := List.mem_map.1 hc
  exact u.toNat_lt
theorem byN_one (s : ByteArray) (h : 0 < s.size) : byN (s.extract 0 1) = [(byN s).getD 0 0] := by
  unfold byN
  rw [ByteArray.data_extract]
  have hl : 0 < s.data.toList.length := by simpa using h
  obtain ⟨d⟩ := s
  obtain ⟨l⟩ := d
  cases l with
  | nil => simp at hl
  | cons c r => simp
/-- a row of numbers, or what reads so -/
theorem rz_of {w : World} {B : Nat} {v : Value} {l : List Int} (h : RdZ B w v l) (hB : B ≤ w.heap.size) : Rz l.length l v w := by
  obtain ⟨a, c, rfl⟩ := h.form
  exact ⟨a, c, rfl, h.below (Below.refl _ _) hB⟩
end Go.Proofs.YtmpjjnjggihojaaGreatDoor

/- Contract of the reference's both. -/
namespace Go.Proofs.YtmpjjnjggihojaaGreatDoor
open Go.RowKit Go.Lib Go.Joins

set_option maxHeartbeats 4000000 in
set_option maxRecDepth 100000 in
theorem mboth_calls (s : ByteArray) (A B : Nat → Nat → Bool) (va vb : Value) (w : World) (hs : s.size ≤ 1000) (hA : MatR w va (s.size + 1) A) (hB : MatR w vb (s.size + 1) B) :
    Calls Tryz.prog 86 #[va, vb, .string s] w (RetM w (s.size + 1) (mBoth A B)) := by
  have H0 := hidden (none_calls s w hs)
  have hA0 := hA
  have hB0 := hB
  obtain ⟨ba, oa, cpa, rfl, _⟩ := hA0
  obtain ⟨bb, ob, cpb, rfl, _⟩ := hB0
  obtain ⟨N, hN⟩ : ∃ N, N = s.size + 1 := ⟨_, rfl⟩
  rw [← hN] at H0 hA hB ⊢
  have hNle : N ≤ 1001 := by omega
  have HN := hidden hN
  have HAr := hidden hA
  have HBr := hidden hB
  obtain ⟨M, hM⟩ : ∃ M, M = mBoth A B := ⟨_, rfl⟩
  rw [← hM]
  have HM := hidden hM
  clear hN hM hA hB
  go_enter Tryz.func86, Tryz.ntmps86
  go_wp2_with fail
  refine H0.out.mono ?_
  rintro e w1 ⟨g, cap, rs, rfl, ht, hb⟩
  have HT := hidden ht
  have HB := hidden hb
  clear ht hb
  go_wp2
  go_loopw [8, 9] (fun i _ wr => ∃ p : Nat, p ≤ N ∧ i = .int .i64 p ∧ TabW wr w.heap.size g cap rs N (mTo M p 0) ∧ Below w.heap.size w wr) (fun i _ _ => N - (Go.RowKit.intOf i).toNat)
  case atStart => exact ⟨0, by omega, rfl, HT.out.congr (mTo_none N _), HB.out⟩
  case round =>
    obtain ⟨p, hp, rfl, ht, hb⟩ := hrel
    have HT1 := hidden ht
    have HB1 := hidden hb
    clear ht hb
    by_cases hlt : p < N
    · have hNn := HN.out
      have hps : p ≤ s.size := by omega
      have hd : decide ((p : Int) ≤ s.size) = true := decide_eq_true (by omega)
      have hd' : decide (p ≤ s.size) = true := decide_eq_true (by omega)
      clear hNn
      go_wp2
      obtain ⟨wo, rfl⟩ : ∃ wo : World, wo = wr := ⟨_, rfl⟩
      go_loopw [9] (fun i wi => ∃ q : Nat, q ≤ N ∧ i = .int .i64 q ∧ TabW wi w.heap.size g cap rs N (mTo M p q) ∧ Below w.heap.size w wi) (fun i _ => N - (Go.RowKit.intOf i).toNat)
      case atStart => exact ⟨0, by omega, rfl, HT1.out, HB1.out⟩
      case round =>
        obtain ⟨q, hq, rfl, ht, hb⟩ := hrel
        have HT2 := hidden ht
        have HB2 := hidden hb
        clear ht hb
        by_cases hlq : q < N
        · have hNn := HN.out
          have e0 : decide ((q : Int) ≤ s.size) = true := decide_eq_true (by omega)
          have e0' : decide (q ≤ s.size) = true := decide_eq_true (by omega)
          obtain ⟨c, hc⟩ : ∃ c, c = rs.getD p 0 := ⟨_, rfl⟩
          have d1 := HT2.out.cell1 (p := p) hlt
          have d2 := HT2.out.cell2 hlt hlq
          have d3 := HT2.out.frozen2 q hlt
          have t4 := fun x (hx : x = M p q) => (HT2.out.set hlt q x).congr (mTo_put hx)
          have b4 := fun x => HB2.out.setCell (p := ⟨rs.getD p 0, q, none⟩) (HT2.out.low p hlt) (.bool x)
          rw [← hc] at d1 d2 d3
          simp only [← hc] at t4 b4
          obtain ⟨u, hu⟩ : ∃ u, u = mTo M p q p q := ⟨_, rfl⟩
          rw [← hu] at d2
          obtain ⟨_, _, _, ea, ha⟩ := HAr.out.below HB2.out
          cases ea
          obtain ⟨ca, oca, cca, a1, a2, _⟩ := ha p hlt
          have a3 := a2 q hlq
          obtain ⟨_, _, _, eb, hb'⟩ := HBr.out.below HB2.out
          cases eb
          obtain ⟨cb, ocb, ccb, b1, b2, _⟩ := hb' p hlt
          have b3 := b2 q hlq
          have T4 := hidden t4
          have B4 := hidden b4
          have hMx : M p q = (A p q || B p q) := by rw [HM.out]; rfl
          generalize A p q = x at *
          generalize B p q = y at *
          have HMX := hidden hMx
          clear t4 b4 hMx hu hc a2 b2 ha hb' hNn
          cases x
          · have T5 := hidden (T4.out y (by rw [HMX.out]; simp))
            have B5 := hidden (B4.out y)
            clear T4 B4
            go_wp2
            go_region
            all_goals
              go_wp2
              go_roundw
              case rel => exact ⟨q + 1, by omega, by go_num, T5.out.drew, B5.out.drew⟩
              case measure => simp [Go.RowKit.intOf]; omega
          · have T5 := hidden (T4.out true (by rw [HMX.out]; simp))
            have B5 := hidden (B4.out true)
            clear T4 B4
            go_wp2
            go_region
            all_goals
              go_wp2
              go_roundw
              case rel => exact ⟨q + 1, by omega, by go_num, T5.out.drew, B5.out.drew⟩
              case measure => simp [Go.RowKit.intOf]; omega
        · obtain rfl : q = N := by omega
          have hNn := HN.out
          have hd : decide ((q : Int) ≤ s.size) = false := decide_eq_false (by omega)
          have hd' : decide (q ≤ s.size) = false := decide_eq_false (by omega)
          have HQ := hidden hlt
          clear hNn
          go_wp2
          have hlt' := HQ.out
          exact ⟨⟨p + 1, by omega, by go_num, HT2.out.congr mTo_row, HB2.out⟩, by simp [Go.RowKit.intOf]; omega⟩
    · obtain rfl : p = N := by omega
      have hNn := HN.out
      have hd : decide ((p : Int) ≤ s.size) = false := decide_eq_false (by omega)
      have hd' : decide (p ≤ s.size) = false := decide_eq_false (by omega)
      clear hNn
      go_wp2
      go_ret
      exact ⟨g, cap, rs, rfl, HT1.out.congr mTo_all, HB1.out⟩
end Go.Proofs.YtmpjjnjggihojaaGreatDoor
