/- LvTrim, LvWord, LvLeast, LvVis, put together. -/
import Derived.Test.YtnjjbaodfjmiaaaGreatLt29
import Derived.Test.YtnjjbaodfjmiaaaGreatLt28
import Derived.Test.YtnjjbaodfjmiaaaGreatLt26
/- What a machine is trimmed to: the states that are reached and alive, and state 0; it is right, reads each word with the same label, each of its states but the first counts, and trimmed again it is the same. Of no program. -/
namespace Go.Proofs.YtnjjbaodfjmiaaaGreat

/-- does state i count? -/
def kept (D : DfaM) (i : Nat) : Bool := decide (i = 0) || (decide (On (reachedL D) i) && decide (On (aliveL D) i))
def keptL (D : DfaM) (n : Nat) : List Nat := (List.range n).filter (kept D)
/-- its number -/
def rankD (D : DfaM) (i : Nat) : Nat := (keptL D i).length
def renD (D : DfaM) (x : Int) : Int := if x < 0 then x else if kept D x.toNat = true then (rankD D x.toNat : Int) else -1
def trimX (D : DfaM) : DfaM := ⟨D.cls, D.width, (keptL D D.next.length).map fun i => (D.next.getD i []).map (renD D), (keptL D D.next.length).map fun i => D.label.getD i 0⟩
def zeroD : DfaM := ⟨fun _ => 0, 0, [], []⟩
def trimM (D : DfaM) : DfaM := if rightD D = true then trimX D else zeroD

theorem getD_lt {α : Type} {l : List α} {i : Nat} (h : i < l.length) (d : α) : l.getD i d = l[i] := by
  rw [List.getD_eq_getElem?_getD, List.getElem?_eq_getElem h]; rfl
theorem getD_map {α β : Type} (f : α → β) {l : List α} {i : Nat} (h : i < l.length) (d : α) (e : β) : (l.map f).getD i e = f (l.getD i d) := by
  rw [getD_lt (by simpa using h), getD_lt h]; simp
theorem kept_zero (D : DfaM) : kept D 0 = true := by simp [kept]
section
variable {D : DfaM}
theorem kept_mem {i n : Nat} : i ∈ keptL D n ↔ i < n ∧ kept D i = true := by simp [keptL]
theorem keptL_more (n : Nat) : keptL D (n + 1) = keptL D n ++ if kept D n = true then [n] else [] := by
  unfold keptL
  rw [List.range_succ, List.filter_append]
  congr 1
  by_cases h : kept D n = true <;> simp [h]
theorem kept_pre (i : Nat) : ∀ d, keptL D i <+: keptL D (i + d)
  | 0 => List.prefix_rfl
  | d + 1 => (kept_pre i d).trans (by rw [show i + (d + 1) = (i + d) + 1 by omega, keptL_more]; exact List.prefix_append _ _)
theorem kept_get {i n : Nat} (hi : i < n) (hk : kept D i = true) : (keptL D n)[rankD D i]? = some i := by
  obtain ⟨d, rfl⟩ : ∃ d, n = (i + 1) + d := ⟨n - (i + 1), by omega⟩
  obtain ⟨r, hr⟩ := kept_pre (D := D) (i + 1) d
  rw [← hr, keptL_more, if_pos hk]
  unfold rankD
  simp
theorem rank_lt {i n : Nat} (hi : i < n) (hk : kept D i = true) : rankD D i < (keptL D n).length := (List.getElem?_eq_some_iff.1 (kept_get hi hk)).1
theorem rank_zero : rankD D 0 = 0 := rfl
theorem kept_nodup (n : Nat) : (keptL D n).Nodup := (List.nodup_range (n := n)).filter _
/-- each place is that of a state -/
theorem kept_at {k n : Nat} (hk : k < (keptL D n).length) : ∃ i, i < n ∧ kept D i = true ∧ rankD D i = k := by
  have hm : (keptL D n)[k] ∈ keptL D n := List.getElem_mem hk
  obtain ⟨h1, h2⟩ := kept_mem.1 hm
  refine ⟨_, h1, h2, ?_⟩
  have h3 := kept_get h1 h2
  obtain ⟨h4, h5⟩ := List.getElem?_eq_some_iff.1 h3
  have hp := List.pairwise_iff_getElem.1 (kept_nodup (D := D) n)
  by_cases a : rankD D ((keptL D n)[k]) < k
  · exact absurd h5 (hp _ _ h4 hk a)
  · by_cases b : k < rankD D ((keptL D n)[k])
    · exact absurd h5.symm (hp _ _ hk h4 b)
    · omega
theorem kept_pos {n : Nat} (hn : 0 < n) : 0 < (keptL D n).length := by
  have := rank_lt hn (kept_zero D)
  omega
theorem kept_spec (hR : rightD D = true) {i : Nat} (hi : i < D.next.length) : kept D i = true ↔ i = 0 ∨ (Rch D i ∧ Alv D i) := by
  unfold kept
  simp only [Bool.or_eq_true, Bool.and_eq_true, decide_eq_true_eq]
  rw [reached_iff hR, alive_iff hR hi]
theorem kept_rch (hR : rightD D = true) {i : Nat} (hi : i < D.next.length) (h : kept D i = true) : Rch D i := by
  rcases (kept_spec hR hi).1 h with rfl | h
  · exact .zero
  · exact h.1
theorem ren_in (hR : rightD D = true) {x : Int} (h0 : -1 ≤ x) (h1 : x < D.next.length) : -1 ≤ renD D x ∧ renD D x < (keptL D D.next.length).length := by
  have hp := kept_pos (D := D) (n := D.next.length) (by have := (rightD_spec hR).2.2.1; omega)
  unfold renD
  split
  · constructor <;> omega
  · split
    · rename_i h2 h3
      have := rank_lt (D := D) (show x.toNat < D.next.length by omega) h3
      constructor <;> omega
    · constructor <;> omega
theorem trim_next (i : Nat) (hi : i < D.next.length) (hk : kept D i = true) : (trimX D).next.getD (rankD D i) [] = (D.next.getD i []).map (renD D) := by
  have h := kept_get hi hk
  obtain ⟨h1, h2⟩ := List.getElem?_eq_some_iff.1 h
  show ((keptL D D.next.length).map _).getD _ _ = _
  rw [getD_map (fun i => (D.next.getD i []).map (renD D)) h1 0 [], getD_lt h1, h2]
theorem trim_label (i : Nat) (hi : i < D.next.length) (hk : kept D i = true) : (trimX D).label.getD (rankD D i) 0 = D.label.getD i 0 := by
  have h := kept_get hi hk
  obtain ⟨h1, h2⟩ := List.getElem?_eq_some_iff.1 h
  show ((keptL D D.next.length).map _).getD _ _ = _
  rw [getD_map (fun i => D.label.getD i 0) h1 0 0, getD_lt h1, h2]
theorem trim_len : (trimX D).next.length = (keptL D D.next.length).length ∧ (trimX D).label.length = (keptL D D.next.length).length := ⟨by simp [trimX], by simp [trimX]⟩
theorem trim_right (hR : rightD D = true) : rightD (trimX D) = true := by
  obtain ⟨h1, h2, h3, h4, h5⟩ := rightD_spec hR
  obtain ⟨l1, l2⟩ := trim_len (D := D)
  refine rightD_all ?_ fun k hk => ?_
  · unfold headOk
    simp only [Bool.and_eq_true, decide_eq_true_eq]
    refine ⟨h1, h2, ?_, ?_⟩
    · have := kept_pos (D := D) (n := D.next.length) (by omega)
      omega
    · omega
  · rw [l1] at hk
    obtain ⟨i, hi, hki, rfl⟩ := kept_at hk
    obtain ⟨h6, h7, h8⟩ := h5 i hi
    unfold rowOk
    rw [trim_next i hi hki, trim_label i hi hki]
    simp only [Bool.and_eq_true, decide_eq_true_eq, List.all_eq_true]
    refine ⟨by rw [List.length_map]; exact h6, h7, fun x hx => ?_⟩
    obtain ⟨y, hy, rfl⟩ := List.mem_map.1 hx
    have := h8 y hy
    have := ren_in hR this.1 this.2
    unfold entB
    simp only [Bool.and_eq_true, decide_eq_true_eq]
    exact ⟨this.1, by rw [l1]; exact this.2⟩
theorem trim_to (hR : rightD D = true) {i c : Nat} (hi : i < D.next.length) (hk : kept D i = true) (hc : c < D.width.toNat) : toD (trimX D) (rankD D i) c = renD D (toD D i c) := by
  obtain ⟨h6, _⟩ := (rightD_spec hR).2.2.2.2 i hi
  unfold toD
  rw [trim_next i hi hk, getD_map (renD D) (by omega) 0 0]
theorem ren_kept {j : Nat} (h : kept D j = true) : renD D (j : Int) = rankD D j := by
  unfold renD
  rw [if_neg (by omega), Int.toNat_natCast, if_pos h]
theorem trim_edge (hR : rightD D = true) {i j : Nat} (hi : i < D.next.length) (hk : kept D i = true) (hj : kept D j = true) (he : Edge D i j) : Edge (trimX D) (rankD D i) (rankD D j) := by
  obtain ⟨c, hc, e⟩ := he
  exact ⟨c, hc, by rw [trim_to hR hi hk hc, e, ren_kept hj]⟩
/-- each state that counts is reached, and alive, among those that count -/
theorem trim_rch (hR : rightD D = true) {i : Nat} (h : Rch D i) : Alv D i → Rch (trimX D) (rankD D i) := by
  induction h with
  | zero => exact fun _ => .zero
  | @step a b ha he ih =>
    intro hb
    have haa : Alv D a := .step he hb
    have hla := ha.lt hR
    have hka := (kept_spec hR hla).2 (.inr ⟨ha, haa⟩)
    have hkb := (kept_spec hR (he.lt hR hla)).2 (.inr ⟨.step ha he, hb⟩)
    exact .step (ih haa) (trim_edge hR hla hka hkb he)
theorem trim_alv (hR : rightD D = true) {i : Nat} (h : Alv D i) : Rch D i → Alv (trimX D) (rankD D i) := by
  induction h with
  | @here a h =>
    intro ha
    have hla := ha.lt hR
    exact .here (by rw [trim_label a hla ((kept_spec hR hla).2 (.inr ⟨ha, .here h⟩))]; exact h)
  | @step a b he hb ih =>
    intro ha
    have hla := ha.lt hR
    have hka := (kept_spec hR hla).2 (.inr ⟨ha, .step he hb⟩)
    have hkb := (kept_spec hR (he.lt hR hla)).2 (.inr ⟨.step ha he, hb⟩)
    exact .step (trim_edge hR hla hka hkb he) (ih (.step ha he))
theorem trim_all (hR : rightD D = true) {k : Nat} (hk : k < (trimX D).next.length) : k = 0 ∨ (Rch (trimX D) k ∧ Alv (trimX D) k) := by
  rw [trim_len.1] at hk
  obtain ⟨i, hi, hki, rfl⟩ := kept_at hk
  rcases (kept_spec hR hi).1 hki with rfl | ⟨h1, h2⟩
  · exact .inl rank_zero
  · exact .inr ⟨trim_rch hR h1 h2, trim_alv hR h2 h1⟩
/-- a machine all of whose states count is trimmed to itself -/
theorem trim_same (hR : rightD D = true) (h : ∀ k, k < D.next.length → k = 0 ∨ (Rch D k ∧ Alv D k)) : trimX D = D := by
  obtain ⟨_, _, _, h4, h5⟩ := rightD_spec hR
  have hk : ∀ n, n ≤ D.next.length → keptL D n = List.range n := fun n hn => by
    unfold keptL
    rw [List.filter_eq_self]
    intro i hi
    have hi : i < n := by simpa using hi
    exact (kept_spec hR (by omega)).2 (h i (by omega))
  have hr : ∀ x : Int, -1 ≤ x → x < D.next.length → renD D x = x := fun x h0 h1 => by
    unfold renD
    split
    · rfl
    · rw [if_pos ((kept_spec hR (by omega)).2 (h x.toNat (by omega)))]
      unfold rankD
      rw [hk _ (by omega), List.length_range]
      omega
  have e1 : ((keptL D D.next.length).map fun i => (D.next.getD i []).map (renD D)) = D.next := by
    rw [hk _ (Nat.le_refl _)]
    refine List.ext_getElem (by simp) fun i h1 h2 => ?_
    rw [List.getElem_map, List.getElem_range, getD_lt h2]
    have h8 := (h5 i h2).2.2
    rw [getD_lt h2] at h8
    conv => rhs; rw [← List.map_id (D.next[i])]
    exact List.map_congr_left fun x hx => hr x (h8 x hx).1 (h8 x hx).2
  have e2 : ((keptL D D.next.length).map fun i => D.label.getD i 0) = D.label := by
    rw [hk _ (Nat.le_refl _)]
    refine List.ext_getElem (by simp [h4]) fun i h1 h2 => ?_
    rw [List.getElem_map, List.getElem_range, getD_lt h2]
  unfold trimX
  rw [e1, e2]
theorem trim_again (hR : rightD D = true) : trimM (trimX D) = trimX D := by
  unfold trimM
  rw [if_pos (trim_right hR)]
  exact trim_same (trim_right hR) fun k hk => trim_all hR hk

/-- by bytes -/
theorem nxt_edge (hR : rightD D = true) {i b : Nat} (hb : b < 256) {j : Nat} (h : nxtD D (i : Int) b = j) : Edge D i j := by
  have h2 := (rightD_spec hR).2.1
  have := wid_ge D.cls hb
  exact ⟨D.cls b, by omega, h⟩
theorem label_neg {s : Int} (h : s < 0) : labelD D s = -1 := by
  unfold labelD
  rw [if_neg (by omega)]
theorem label_at (hR : rightD D = true) {i : Nat} (hi : i < D.next.length) : labelD D (i : Int) = D.label.getD i 0 := by
  unfold labelD
  rw [if_pos ⟨hR, by omega, by have := (rightD_spec hR).2.2.2.1; omega⟩, Int.toNat_natCast]
theorem runS_cons {i b : Nat} (w : List Nat) : runS D (i : Int) (b :: w) = runS D (nxtD D i b) w := by
  conv => lhs; unfold runS
  rw [if_neg (by omega)]
/-- from a state that is not alive no word leads to a label -/
theorem dead_run (hR : rightD D = true) : ∀ (w : List Nat), (∀ b ∈ w, b < 256) → ∀ i, i < D.next.length → ¬ Alv D i → labelD D (runS D (i : Int) w) = -1
  | [], _, i, hi, h => by
    show labelD D (i : Int) = -1
    rw [label_at hR hi]
    have := ((rightD_spec hR).2.2.2.2 i hi).2.1
    by_cases h0 : 0 ≤ D.label.getD i 0
    · exact absurd (.here h0) h
    · omega
  | b :: w, hw, i, hi, h => by
    rw [runS_cons]
    have hb := hw b (List.mem_cons_self ..)
    obtain ⟨_, h1, h2⟩ := nxtD_in hR (s := (i : Int)) (by omega) (by omega) hb
    by_cases h0 : nxtD D (i : Int) b < 0
    · rw [runS_stop D h0, label_neg h0]
    · obtain ⟨j, hj⟩ : ∃ j : Nat, nxtD D (i : Int) b = j := ⟨(nxtD D (i : Int) b).toNat, by omega⟩
      rw [hj]
      exact dead_run hR w (fun b hb => hw b (List.mem_cons_of_mem _ hb)) j (by omega) fun ha => h (.step (nxt_edge hR hb hj) ha)
theorem trim_nxt (hR : rightD D = true) {i b : Nat} (hi : i < D.next.length) (hk : kept D i = true) (hb : b < 256) : nxtD (trimX D) (rankD D i : Nat) b = renD D (nxtD D i b) := by
  have h2 := (rightD_spec hR).2.1
  have := wid_ge D.cls hb
  exact trim_to hR hi hk (c := D.cls b) (by omega)
theorem trim_run (hR : rightD D = true) : ∀ (w : List Nat), (∀ b ∈ w, b < 256) → ∀ i, i < D.next.length → kept D i = true → labelD (trimX D) (runS (trimX D) (rankD D i : Nat) w) = labelD D (runS D (i : Int) w)
  | [], _, i, hi, h => by
    show labelD (trimX D) (rankD D i : Nat) = labelD D (i : Int)
    rw [label_at hR hi, label_at (trim_right hR) (by rw [trim_len.1]; exact rank_lt hi h), trim_label i hi h]
  | b :: w, hw, i, hi, h => by
    rw [runS_cons, runS_cons]
    have hb := hw b (List.mem_cons_self ..)
    have hw' : ∀ b ∈ w, b < 256 := fun b hb => hw b (List.mem_cons_of_mem _ hb)
    obtain ⟨_, h1, h2⟩ := nxtD_in hR (s := (i : Int)) (by omega) (by omega) hb
    rw [trim_nxt hR hi h hb]
    by_cases h0 : nxtD D (i : Int) b < 0
    · rw [runS_stop D h0, label_neg h0]
      unfold renD
      rw [if_pos h0, runS_stop _ h0, label_neg h0]
    · obtain ⟨j, hj⟩ : ∃ j : Nat, nxtD D (i : Int) b = j := ⟨(nxtD D (i : Int) b).toNat, by omega⟩
      have he := nxt_edge hR hb hj
      rw [hj] at h2 ⊢
      have hjl : j < D.next.length := by omega
      by_cases hk : kept D j = true
      · rw [ren_kept hk]
        exact trim_run hR w hw' j hjl hk
      · have hd : ¬ Alv D j := fun ha => hk ((kept_spec hR hjl).2 (.inr ⟨.step (kept_rch hR hi h) he, ha⟩))
        rw [dead_run hR w hw' j hjl hd]
        unfold renD
        rw [if_neg (by omega), Int.toNat_natCast, if_neg hk, runS_stop _ (by omega), label_neg (by omega)]
/-- what is trimmed reads each word with the same label -/
theorem trim_reads (hR : rightD D = true) {w : List Nat} (hw : ∀ b ∈ w, b < 256) : labelD (trimX D) (runD (trimX D) w) = labelD D (runD D w) := by
  unfold runD
  rw [if_pos hR, if_pos (trim_right hR)]
  have := trim_run hR w hw 0 (by have := (rightD_spec hR).2.2.1; omega) (kept_zero D)
  rw [rank_zero] at this
  exact this
end
end Go.Proofs.YtnjjbaodfjmiaaaGreat

/- Least words: bytes in order, the least byte of a class, the least of the shortest words that lead to a state, found by longer and longer ones. Of no program. -/
namespace Go.Proofs.YtnjjbaodfjmiaaaGreat

/-- bytes in order: does one word come before another? -/
def lxB : List Nat → List Nat → Bool
  | _, [] => false
  | [], _ :: _ => true
  | a :: x, b :: y => decide (a < b) || (decide (a = b) && lxB x y)
theorem lx_irr : ∀ x, lxB x x = false
  | [] => rfl
  | a :: x => by simp [lxB, lx_irr x]
theorem lx_trans : ∀ {x y z : List Nat}, lxB x y = true → lxB y z = true → lxB x z = true
  | _, _, [], _, h => by simp [lxB] at h
  | _, [], _ :: _, h, _ => by simp [lxB] at h
  | [], _ :: _, _ :: _, _, _ => rfl
  | a :: x, b :: y, c :: z, h1, h2 => by
    simp only [lxB, Bool.or_eq_true, Bool.and_eq_true, decide_eq_true_eq] at h1 h2 ⊢
    rcases h1 with h1 | ⟨rfl, h1⟩ <;> rcases h2 with h2 | ⟨rfl, h2⟩
    · exact .inl (by omega)
    · exact .inl h1
    · exact .inl h2
    · exact .inr ⟨rfl, lx_trans h1 h2⟩
theorem lx_total : ∀ {x y : List Nat}, lxB x y = false → lxB y x = false → x = y
  | [], [], _, _ => rfl
  | [], _ :: _, h, _ => by simp [lxB] at h
  | _ :: _, [], _, h => by simp [lxB] at h
  | a :: x, b :: y, h1, h2 => by
    simp only [lxB, Bool.or_eq_false_iff, Bool.and_eq_false_iff, decide_eq_false_iff_not] at h1 h2
    obtain rfl : a = b := by omega
    have e1 : lxB x y = false := by simpa using h1.2
    have e2 : lxB y x = false := by simpa using h2.2
    rw [lx_total e1 e2]
/-- not before, in turn -/
theorem lx_le {x y z : List Nat} (h1 : lxB y x = false) (h2 : lxB z y = false) : lxB z x = false := by
  cases h : lxB z x with
  | false => rfl
  | true =>
    cases h3 : lxB x y with
    | true => rw [lx_trans h h3] at h2; cases h2
    | false => rw [lx_total h3 h1] at h; rw [h] at h2; cases h2
theorem lx_snoc : ∀ {x y : List Nat}, x.length = y.length → ∀ a b, lxB (x ++ [a]) (y ++ [b]) = (lxB x y || (decide (x = y) && decide (a < b)))
  | [], [], _, a, b => by simp [lxB]
  | [], _ :: _, h, _, _ => by simp at h
  | _ :: _, [], h, _, _ => by simp at h
  | c :: x, d :: y, h, a, b => by
    have ih := lx_snoc (x := x) (y := y) (by simpa using h) a b
    simp only [List.cons_append, lxB, ih]
    by_cases e : c = d
    · subst e; simp
    · simp [e]

/-- the least byte of a class -/
def lbC (g : Nat → Nat) (c : Nat) : Nat := (lstC g c).headD 0
theorem rgt_sur (g : Nat → Nat) : ∀ n b nx, rgt g n b nx = true → nx = wid g b → (∀ c, c < nx → ∃ j, j < b ∧ g j = c) → ∀ c, c < wid g (b + n) → ∃ j, j < b + n ∧ g j = c
  | 0, b, nx, _, h1, h2, c, hc => h2 c (by rw [h1]; exact hc)
  | n + 1, b, nx, h, h1, h2, c, hc => by
    unfold rgt at h
    split at h
    · cases h
    · rename_i hb
      have hw : wid g (b + 1) = max (wid g b) (g b + 1) := rfl
      have key := rgt_sur g n (b + 1) _ h (by rw [hw, ← h1]; split <;> omega) (fun c hc => by
        by_cases e : c = g b
        · exact ⟨b, by omega, e.symm⟩
        · obtain ⟨j, hj, ej⟩ := h2 c (by split at hc <;> omega)
          exact ⟨j, by omega, ej⟩) c (by rw [show b + 1 + n = b + (n + 1) by omega]; exact hc)
      obtain ⟨j, hj, e⟩ := key
      exact ⟨j, by omega, e⟩
theorem lb_is {D : DfaM} (hR : rightD D = true) {c : Nat} (hc : c < D.width.toNat) : lbC D.cls c < 256 ∧ D.cls (lbC D.cls c) = c ∧ ∀ b, b < 256 → D.cls b = c → lbC D.cls c ≤ b := by
  obtain ⟨h1, h2, _⟩ := rightD_spec hR
  obtain ⟨j, hj, e⟩ := rgt_sur D.cls 256 0 0 h1 rfl (fun c hc => absurd hc (Nat.not_lt_zero c)) c (by rw [show 0 + 256 = 256 from rfl]; omega)
  have hm : ∀ b, b < 256 → D.cls b = c → b ∈ lstC D.cls (c : Int) := fun b hb hbc => lst_mem.2 ⟨hb, by omega⟩
  have hs := lst_sorted D.cls (c : Int)
  unfold lbC
  cases hl : lstC D.cls (c : Int) with
  | nil => have := hm j (by omega) e; rw [hl] at this; cases this
  | cons x r =>
    have hx : x ∈ lstC D.cls (c : Int) := by rw [hl]; exact List.mem_cons_self ..
    obtain ⟨h3, h4⟩ := lst_mem.1 hx
    refine ⟨h3, by show D.cls x = c; omega, fun b hb hbc => ?_⟩
    have := hm b hb hbc
    rw [hl] at this hs
    rcases List.mem_cons.1 this with e | e
    · exact Nat.le_of_eq e.symm
    · exact Nat.le_of_lt ((List.pairwise_cons.1 hs).1 _ e)

/-- word w leads to state i -/
def Leads (D : DfaM) (w : List Nat) (i : Nat) : Prop := (∀ b ∈ w, b < 256) ∧ runS D 0 w = (i : Int)
/-- no shorter word leads there, nor one that is as short and less -/
def LeastW (D : DfaM) (w : List Nat) (i : Nat) : Prop := Leads D w i ∧ ∀ v, Leads D v i → w.length < v.length ∨ (w.length = v.length ∧ lxB v w = false)
/-- a least word that is read with label t, or none is -/
def ExSpec (D : DfaM) (t : Int) : Option (List Nat) → Prop
  | none => ∀ w, (∀ b ∈ w, b < 256) → labelD D (runD D w) ≠ t
  | some w => (∀ b ∈ w, b < 256) ∧ labelD D (runD D w) = t ∧ ∀ v, (∀ b ∈ v, b < 256) → labelD D (runD D v) = t → w.length < v.length ∨ (w.length = v.length ∧ lxB v w = false)
theorem ExSpec.one {D : DfaM} {t : Int} : ∀ {r s : Option (List Nat)}, ExSpec D t r → ExSpec D t s → r = s
  | none, none, _, _ => rfl
  | none, some w, h, k => absurd k.2.1 (h w k.1)
  | some w, none, h, k => absurd h.2.1 (k w h.1)
  | some w, some v, h, k => by
    have h1 := h.2.2 v k.1 k.2.1
    have h2 := k.2.2 w h.1 h.2.1
    have e1 : lxB v w = false := by
      rcases h1 with a | a
      · rcases h2 with b | b <;> omega
      · exact a.2
    have e2 : lxB w v = false := by
      rcases h2 with a | a
      · rcases h1 with b | b <;> omega
      · exact a.2
    rw [lx_total e2 e1]
section
variable {D : DfaM}
theorem runS_append (s : Int) : ∀ (w v : List Nat), runS D s (w ++ v) = runS D (runS D s w) v
  | [], v => rfl
  | b :: w, v => by
    by_cases h : s < 0
    · rw [runS_stop D h, runS_stop D h, runS_stop D h]
    · rw [List.cons_append, runS, if_neg h, runS, if_neg h, runS_append]
/-- where a word leads: nowhere, or to a state -/
theorem run_in (hR : rightD D = true) : ∀ (w : List Nat), (∀ b ∈ w, b < 256) → ∀ s : Int, -1 ≤ s → s < D.next.length → -1 ≤ runS D s w ∧ runS D s w < D.next.length
  | [], _, _, h0, h1 => ⟨h0, h1⟩
  | b :: w, hw, s, h0, h1 => by
    unfold runS
    split
    · exact ⟨h0, h1⟩
    · rename_i h
      obtain ⟨_, h2, h3⟩ := nxtD_in hR (s := s) (by omega) h1 (hw b (List.mem_cons_self ..))
      exact run_in hR w (fun b hb => hw b (List.mem_cons_of_mem _ hb)) _ h2 h3
theorem Leads.lt (hR : rightD D = true) {w : List Nat} {i : Nat} (h : Leads D w i) : i < D.next.length := by
  have := run_in hR w h.1 0 (by omega) (by have := (rightD_spec hR).2.2.1; omega)
  rw [h.2] at this
  omega
theorem leads_nil : Leads D [] 0 := ⟨by simp, rfl⟩
theorem Leads.snoc {w : List Nat} {i b j : Nat} (h : Leads D w i) (hb : b < 256) (hn : nxtD D (i : Int) b = (j : Int)) : Leads D (w ++ [b]) j := by
  refine ⟨fun x hx => ?_, ?_⟩
  · rcases List.mem_append.1 hx with hx | hx
    · exact h.1 x hx
    · simp only [List.mem_singleton] at hx; omega
  · rw [runS_append, h.2, runS_cons, hn]; rfl
/-- a word that is not empty leads by its last byte -/
theorem Leads.last (hR : rightD D = true) {w : List Nat} {j : Nat} (h : Leads D w j) (hw : w ≠ []) : ∃ v b i, w = v ++ [b] ∧ b < 256 ∧ Leads D v i ∧ nxtD D (i : Int) b = (j : Int) := by
  obtain ⟨v, b, rfl⟩ : ∃ v b, w = v ++ [b] := ⟨w.dropLast, w.getLast hw, (List.dropLast_concat_getLast hw).symm⟩
  have hv : ∀ x ∈ v, x < 256 := fun x hx => h.1 x (List.mem_append_left _ hx)
  have hb : b < 256 := h.1 b (by simp)
  have h2 := h.2
  rw [runS_append] at h2
  have h3 := run_in hR v hv 0 (by omega) (by have := (rightD_spec hR).2.2.1; omega)
  by_cases h0 : runS D 0 v < 0
  · rw [runS_stop D h0] at h2; omega
  · obtain ⟨i, hi⟩ : ∃ i : Nat, runS D 0 v = i := ⟨(runS D 0 v).toNat, by omega⟩
    rw [hi, runS_cons] at h2
    exact ⟨v, b, i, rfl, hb, ⟨hv, hi⟩, h2⟩
theorem leads_rch (hR : rightD D = true) : ∀ (n : Nat) (w : List Nat), w.length = n → ∀ j, Leads D w j → Rch D j
  | 0, w, hn, j, h => by
    obtain rfl : w = [] := by cases w; rfl; simp at hn
    have := h.2
    obtain rfl : j = 0 := by simp [runS] at this; omega
    exact .zero
  | n + 1, w, hn, j, h => by
    obtain ⟨v, b, i, rfl, hb, hv, he⟩ := h.last hR (by rintro rfl; simp at hn)
    exact .step (leads_rch hR n v (by simpa using hn) i hv) (nxt_edge hR hb he)
theorem edge_byte (hR : rightD D = true) {i j : Nat} (he : Edge D i j) : ∃ b, b < 256 ∧ nxtD D (i : Int) b = (j : Int) := by
  obtain ⟨c, hc, e⟩ := he
  obtain ⟨h1, h2, _⟩ := lb_is hR hc
  exact ⟨lbC D.cls c, h1, by unfold nxtD; rw [h2, Int.toNat_natCast]; exact e⟩
theorem rch_leads (hR : rightD D = true) {j : Nat} (h : Rch D j) : ∃ w, Leads D w j := by
  induction h with
  | zero => exact ⟨[], leads_nil⟩
  | step _ he ih =>
    obtain ⟨w, hw⟩ := ih
    obtain ⟨b, hb, hn⟩ := edge_byte hR he
    exact ⟨_, hw.snoc hb hn⟩
/-- states that words of k bytes at most lead to -/
def Lev (D : DfaM) (k i : Nat) : Prop := ∃ w, Leads D w i ∧ w.length ≤ k
theorem lev_more (hR : rightD D = true) {k j : Nat} : Lev D (k + 1) j ↔ Lev D k j ∨ ∃ i, Lev D k i ∧ Edge D i j := by
  constructor
  · rintro ⟨w, hw, hl⟩
    by_cases h : w.length ≤ k
    · exact .inl ⟨w, hw, h⟩
    · obtain ⟨v, b, i, rfl, hb, hv, he⟩ := hw.last hR (by rintro rfl; simp at h)
      exact .inr ⟨i, ⟨v, hv, by simpa using hl⟩, nxt_edge hR hb he⟩
  · rintro (⟨w, hw, hl⟩ | ⟨i, ⟨w, hw, hl⟩, he⟩)
    · exact ⟨w, hw, by omega⟩
    · obtain ⟨b, hb, hn⟩ := edge_byte hR he
      exact ⟨_, hw.snoc hb hn, by simpa using hl⟩
open Classical in
/-- each state that is come to is come to by a word shorter than there are states -/
theorem lev_all (hR : rightD D = true) {j : Nat} (h : Rch D j) : Lev D (D.next.length - 1) j := by
  have hn : 0 < D.next.length := by have := (rightD_spec hR).2.2.1; omega
  let row : (Nat → Prop) → List Bool := fun P => (List.range D.next.length).map fun i => decide (P i)
  have on_row : ∀ P i, On (row P) i ↔ i < D.next.length ∧ P i := fun P i => by
    show ((List.range D.next.length).map fun i => decide (P i)).getD i false = true ↔ _
    by_cases hi : i < D.next.length
    · rw [getD_map (fun i => decide (P i)) (by simpa using hi) 0 false, getD_lt (by simpa using hi)]
      simp [hi]
    · rw [List.getD_eq_getElem?_getD, List.getElem?_eq_none (by simpa using Nat.le_of_not_lt hi)]
      simp [hi]
  let f : List Bool → List Bool := fun S => if S.length = D.next.length then row (fun j => On S j ∨ ∃ i, On S i ∧ Edge D i j) else S
  have hl : ∀ S, (f S).length = S.length := fun S => by
    show (if _ then _ else _ : List Bool).length = _
    split
    · rename_i e; simp [row, e]
    · rfl
  have hm : ∀ S i, On S i → On (f S) i := fun S i h => by
    show On (if _ then _ else _ : List Bool) i
    split
    · rename_i e
      exact (on_row _ _).2 ⟨by have := h.lt; omega, .inl h⟩
    · exact h
  have hlen : (row (Lev D 0)).length = D.next.length := by simp [row]
  have hlev : ∀ k i, On (iterL f (row (Lev D 0)) k) i ↔ i < D.next.length ∧ Lev D k i := by
    intro k
    induction k with
    | zero => exact fun i => on_row _ i
    | succ k ih =>
      intro i
      show On (f (iterL f (row (Lev D 0)) k)) i ↔ _
      have e : (iterL f (row (Lev D 0)) k).length = D.next.length := (iter_len hl _ k).trans hlen
      show On (if _ then _ else _ : List Bool) i ↔ _
      rw [if_pos e, on_row, lev_more hR]
      constructor
      · rintro ⟨hi, h | ⟨a, ha, he⟩⟩
        · exact ⟨hi, .inl ((ih i).1 h).2⟩
        · exact ⟨hi, .inr ⟨a, ((ih a).1 ha).2, he⟩⟩
      · rintro ⟨hi, h | ⟨a, ha, he⟩⟩
        · exact ⟨hi, .inl ((ih i).2 ⟨hi, h⟩)⟩
        · exact ⟨hi, .inr ⟨a, (ih a).2 ⟨by obtain ⟨w, hw, _⟩ := ha; exact hw.lt hR, ha⟩, he⟩⟩
  have h0 : On (row (Lev D 0)) 0 := (on_row _ _).2 ⟨hn, [], leads_nil, Nat.le_refl _⟩
  have h1 : 1 ≤ onN (row (Lev D 0)) := by
    have hc := h0
    have hlt := h0.lt
    unfold On at hc
    rw [getD_lt hlt] at hc
    exact List.count_pos_iff.2 (hc ▸ List.getElem_mem hlt)
  have hf := iter_fix hl hm (row (Lev D 0)) (n := D.next.length - 1) (by omega)
  suffices h : On (iterL f (row (Lev D 0)) (D.next.length - 1)) j from ((hlev _ j).1 h).2
  induction h with
  | zero => exact iter_mono hm _ h0 _
  | @step a b ha he ih =>
    rw [← hf]
    have e : (iterL f (row (Lev D 0)) (D.next.length - 1)).length = D.next.length := (iter_len hl _ _).trans hlen
    show On (if _ then _ else _ : List Bool) b
    rw [if_pos e, on_row]
    exact ⟨he.lt hR (ha.lt hR), .inr ⟨a, ih, he⟩⟩
/-- what is read with a label leads to a state -/
theorem reads_leads (hR : rightD D = true) {t : Int} (ht : 0 ≤ t) {w : List Nat} (hw : ∀ b ∈ w, b < 256) (h : labelD D (runD D w) = t) : ∃ i, Leads D w i ∧ i < D.next.length ∧ D.label.getD i 0 = t := by
  have h3 := run_in hR w hw 0 (by omega) (by have := (rightD_spec hR).2.2.1; omega)
  unfold runD at h
  rw [if_pos hR] at h
  by_cases h0 : runS D 0 w < 0
  · rw [label_neg h0] at h; omega
  · obtain ⟨i, hi⟩ : ∃ i : Nat, runS D 0 w = i := ⟨(runS D 0 w).toNat, by omega⟩
    rw [hi] at h h3
    rw [label_at hR (by omega)] at h
    exact ⟨i, ⟨hw, hi⟩, by omega, h⟩
theorem leads_reads (hR : rightD D = true) {t : Int} {w : List Nat} {i : Nat} (h : Leads D w i) (hl : D.label.getD i 0 = t) : labelD D (runD D w) = t := by
  unfold runD
  rw [if_pos hR, h.2, label_at hR (h.lt hR), hl]
end
end Go.Proofs.YtnjjbaodfjmiaaaGreat

/- The least word of a label, by longer and longer words, level by level: what each level holds, and what is found. Of no program. -/
namespace Go.Proofs.YtnjjbaodfjmiaaaGreat

/-- of the first i states: the least word of k bytes with label t -/
def bestE (L : List Int) (t : Int) (wd : List (List Nat)) (has : List Bool) (k : Nat) : Nat → Option (List Nat)
  | 0 => none
  | i + 1 => match bestE L t wd has k i with
    | none => if On has i ∧ (wd.getD i []).length = k ∧ L.getD i 0 = t then some (wd.getD i []) else none
    | some b => if On has i ∧ (wd.getD i []).length = k ∧ L.getD i 0 = t ∧ lxB (wd.getD i []) b = true then some (wd.getD i []) else some b
/-- a word for number x -/
def nxS (wd : List (List Nat)) (has : List Bool) (k : Nat) (u : List Nat) (x : Int) (b : Nat) (N : List (List Nat)) : List (List Nat) :=
  if x < 0 ∨ (On has x.toNat ∧ (wd.getD x.toNat []).length ≤ k) then N
  else if N.getD x.toNat [] = [] ∨ lxB (u ++ [b]) (N.getD x.toNat []) = true then N.set x.toNat (u ++ [b]) else N
def nxC (D : DfaM) (wd : List (List Nat)) (has : List Bool) (k i : Nat) (N : List (List Nat)) : Nat → List (List Nat)
  | 0 => N
  | c + 1 => nxS wd has k (wd.getD i []) (toD D i c) (lbC D.cls c) (nxC D wd has k i N c)
def nxI (D : DfaM) (wd : List (List Nat)) (has : List Bool) (k : Nat) : Nat → List (List Nat)
  | 0 => List.replicate D.next.length []
  | i + 1 => if On has i ∧ (wd.getD i []).length = k then nxC D wd has k i (nxI D wd has k i) D.width.toNat else nxI D wd has k i
def mgI (N wd : List (List Nat)) (has : List Bool) : Nat → List (List Nat) × List Bool
  | 0 => (wd, has)
  | i + 1 => if N.getD i [] ≠ [] ∧ ¬ On (mgI N wd has i).2 i then ((mgI N wd has i).1.set i (N.getD i []), (mgI N wd has i).2.set i true) else mgI N wd has i
/-- behind k levels -/
def exS (D : DfaM) : Nat → List (List Nat) × List Bool
  | 0 => (List.replicate D.next.length [], (List.replicate D.next.length false).set 0 true)
  | k + 1 => mgI (nxI D (exS D k).1 (exS D k).2 k D.next.length) (exS D k).1 (exS D k).2 D.next.length
def exB (D : DfaM) (t : Int) (k : Nat) : Option (List Nat) := bestE D.label t (exS D k).1 (exS D k).2 k D.next.length
def exGo (D : DfaM) (t : Int) : Nat → Nat → Option (List Nat)
  | 0, _ => none
  | m + 1, k => match exB D t k with
    | some w => some w
    | none => exGo D t m (k + 1)
def exM (D : DfaM) (t : Int) : Option (List Nat) := if rightD D = true ∧ 0 ≤ t then exGo D t (D.next.length + 1) 0 else none

/-- what a row of words holds, when the words w of Q have been put for their states -/
def NOk (n k : Nat) (wd : List (List Nat)) (has : List Bool) (Q : List Nat → Nat → Prop) (N : List (List Nat)) : Prop :=
  N.length = n ∧ ∀ j, j < n → (On has j ∧ (wd.getD j []).length ≤ k → N.getD j [] = []) ∧
    (¬ (On has j ∧ (wd.getD j []).length ≤ k) → (∀ w, Q w j → N.getD j [] ≠ [] ∧ lxB w (N.getD j []) = false) ∧ (N.getD j [] ≠ [] → Q (N.getD j []) j))
theorem NOk.iff {n k : Nat} {wd : List (List Nat)} {has : List Bool} {Q R : List Nat → Nat → Prop} {N : List (List Nat)} (h : NOk n k wd has Q N) (hq : ∀ w j, j < n → (Q w j ↔ R w j)) : NOk n k wd has R N :=
  ⟨h.1, fun j hj => ⟨(h.2 j hj).1, fun ho => ⟨fun w hw => ((h.2 j hj).2 ho).1 w ((hq w j hj).2 hw), fun hn => (hq _ j hj).1 (((h.2 j hj).2 ho).2 hn)⟩⟩⟩
theorem getD_lset {α : Type} {l : List α} {i : Nat} (hi : i < l.length) (a d : α) (j : Nat) : (l.set i a).getD j d = if j = i then a else l.getD j d := by
  rw [List.getD_eq_getElem?_getD, List.getElem?_set, List.getD_eq_getElem?_getD]
  by_cases e : i = j
  · subst e; simp [hi]
  · rw [if_neg e, if_neg (Ne.symm e)]
theorem NOk.step {n k : Nat} {wd : List (List Nat)} {has : List Bool} {Q : List Nat → Nat → Prop} {N : List (List Nat)} (h : NOk n k wd has Q N) (u : List Nat) {x : Int} (hx : x < n) (b : Nat) :
    NOk n k wd has (fun w j => Q w j ∨ (w = u ++ [b] ∧ x = (j : Int))) (nxS wd has k u x b N) := by
  unfold nxS
  split
  · rename_i hc
    refine ⟨h.1, fun j hj => ⟨(h.2 j hj).1, fun ho => ?_⟩⟩
    obtain ⟨h1, h2⟩ := (h.2 j hj).2 ho
    refine ⟨fun w hw => ?_, fun hn => .inl (h2 hn)⟩
    rcases hw with hw | ⟨_, rfl⟩
    · exact h1 w hw
    · rcases hc with hc | hc
      · omega
      · rw [Int.toNat_natCast] at hc; exact absurd hc ho
  · rename_i hc
    obtain ⟨i, rfl⟩ : ∃ i : Nat, x = i := ⟨x.toNat, by
      by_cases h0 : x < 0
      · exact absurd (.inl h0) hc
      · omega⟩
    rw [Int.toNat_natCast] at hc ⊢
    have hi : i < n := by omega
    have hop : ¬ (On has i ∧ (wd.getD i []).length ≤ k) := fun e => hc (.inr e)
    split
    · rename_i hp
      refine ⟨by rw [List.length_set]; exact h.1, fun j hj => ?_⟩
      rw [getD_lset (by rw [h.1]; exact hi)]
      by_cases e : j = i
      · subst e
        rw [if_pos rfl]
        refine ⟨fun hcl => absurd hcl hop, fun _ => ⟨fun w hw => ⟨by simp, ?_⟩, fun _ => .inr ⟨rfl, rfl⟩⟩⟩
        rcases hw with hw | ⟨rfl, _⟩
        · obtain ⟨h1, h2⟩ := ((h.2 j hj).2 hop).1 w hw
          rcases hp with hp | hp
          · exact absurd hp h1
          · refine lx_le (y := N.getD j []) ?_ h2
            cases h3 : lxB (N.getD j []) (u ++ [b]) with
            | false => rfl
            | true => have := lx_trans hp h3; rw [lx_irr] at this; cases this
        · exact lx_irr _
      · rw [if_neg e]
        refine ⟨(h.2 j hj).1, fun ho => ?_⟩
        obtain ⟨h1, h2⟩ := (h.2 j hj).2 ho
        refine ⟨fun w hw => ?_, fun hn => .inl (h2 hn)⟩
        rcases hw with hw | ⟨_, hw⟩
        · exact h1 w hw
        · omega
    · rename_i hp
      refine ⟨h.1, fun j hj => ⟨(h.2 j hj).1, fun ho => ?_⟩⟩
      obtain ⟨h1, h2⟩ := (h.2 j hj).2 ho
      refine ⟨fun w hw => ?_, fun hn => .inl (h2 hn)⟩
      rcases hw with hw | ⟨rfl, hw⟩
      · exact h1 w hw
      · obtain rfl : i = j := by omega
        refine ⟨fun e => hp (.inl e), ?_⟩
        cases h3 : lxB (u ++ [b]) (N.getD i []) with
        | false => rfl
        | true => exact absurd (.inr h3) hp
section
variable {D : DfaM}
/-- what leads on from words of k bytes -/
def Cand (D : DfaM) (wd : List (List Nat)) (has : List Bool) (k m : Nat) (w : List Nat) (j : Nat) : Prop :=
  ∃ i c, i < m ∧ On has i ∧ (wd.getD i []).length = k ∧ c < D.width.toNat ∧ toD D i c = (j : Int) ∧ w = wd.getD i [] ++ [lbC D.cls c]
theorem nxC_ok (hR : rightD D = true) {wd : List (List Nat)} {has : List Bool} {k i : Nat} (hi : i < D.next.length) {Q : List Nat → Nat → Prop} {N : List (List Nat)} (h : NOk D.next.length k wd has Q N) :
    ∀ c, c ≤ D.width.toNat → NOk D.next.length k wd has (fun w j => Q w j ∨ ∃ d, d < c ∧ toD D i d = (j : Int) ∧ w = wd.getD i [] ++ [lbC D.cls d]) (nxC D wd has k i N c)
  | 0, _ => h.iff fun w j _ => ⟨.inl, fun e => e.elim id fun ⟨d, hd, _⟩ => absurd hd (Nat.not_lt_zero d)⟩
  | c + 1, hc => by
    refine ((nxC_ok hR hi h c (by omega)).step (wd.getD i []) (to_in hR hi (show c < D.width.toNat by omega)).2 (lbC D.cls c)).iff fun w j _ => ?_
    constructor
    · rintro ((e | ⟨d, hd, e⟩) | ⟨e1, e2⟩)
      · exact .inl e
      · exact .inr ⟨d, by omega, e⟩
      · exact .inr ⟨c, by omega, e2, e1⟩
    · rintro (e | ⟨d, hd, e1, e2⟩)
      · exact .inl (.inl e)
      · by_cases ed : d = c
        · subst ed; exact .inr ⟨e2, e1⟩
        · exact .inl (.inr ⟨d, by omega, e1, e2⟩)
theorem nxI_ok (hR : rightD D = true) (wd : List (List Nat)) (has : List Bool) (k : Nat) : ∀ i, i ≤ D.next.length → NOk D.next.length k wd has (Cand D wd has k i) (nxI D wd has k i)
  | 0, _ => by
    have e : ∀ j, (List.replicate D.next.length ([] : List Nat)).getD j [] = [] := fun j => by
      rw [List.getD_eq_getElem?_getD, List.getElem?_replicate]; split <;> rfl
    exact ⟨List.length_replicate, fun j _ => ⟨fun _ => e j, fun _ => ⟨fun w hw => by obtain ⟨i, _, hi, _⟩ := hw; exact absurd hi (Nat.not_lt_zero i), fun h => absurd (e j) h⟩⟩⟩
  | i + 1, hi => by
    have ih := nxI_ok hR wd has k i (by omega)
    show NOk _ _ _ _ _ (if _ then _ else _)
    split
    · rename_i hc
      refine (nxC_ok hR (show i < D.next.length by omega) ih _ (Nat.le_refl _)).iff fun w j _ => ?_
      constructor
      · rintro (⟨a, c, ha, e⟩ | ⟨d, hd, e1, e2⟩)
        · exact ⟨a, c, by omega, e⟩
        · exact ⟨i, d, by omega, hc.1, hc.2, hd, e1, e2⟩
      · rintro ⟨a, c, ha, e1, e2, e3, e4, e5⟩
        by_cases ea : a = i
        · subst ea; exact .inr ⟨c, e3, e4, e5⟩
        · exact .inl ⟨a, c, by omega, e1, e2, e3, e4, e5⟩
    · rename_i hc
      refine ih.iff fun w j _ => ⟨fun ⟨a, c, ha, e⟩ => ⟨a, c, by omega, e⟩, fun ⟨a, c, ha, e1, e2, e⟩ => ?_⟩
      by_cases ea : a = i
      · subst ea; exact absurd ⟨e1, e2⟩ hc
      · exact ⟨a, c, by omega, e1, e2, e⟩
theorem mgI_ok {N wd : List (List Nat)} {has : List Bool} {n : Nat} (hw : wd.length = n) (hh : has.length = n) : ∀ i, i ≤ n → (mgI N wd has i).1.length = n ∧ (mgI N wd has i).2.length = n ∧
    ∀ j, (j < i ∧ N.getD j [] ≠ [] ∧ ¬ On has j → (mgI N wd has i).1.getD j [] = N.getD j [] ∧ On (mgI N wd has i).2 j) ∧
      (¬ (j < i ∧ N.getD j [] ≠ [] ∧ ¬ On has j) → (mgI N wd has i).1.getD j [] = wd.getD j [] ∧ (On (mgI N wd has i).2 j ↔ On has j))
  | 0, _ => ⟨hw, hh, fun j => ⟨fun h => absurd h.1 (Nat.not_lt_zero j), fun _ => ⟨rfl, Iff.rfl⟩⟩⟩
  | i + 1, hi => by
    obtain ⟨h1, h2, h3⟩ := mgI_ok (N := N) hw hh i (by omega)
    have h4 := ((h3 i).2 fun e => absurd e.1 (Nat.lt_irrefl i)).2
    have hm : mgI N wd has (i + 1) = if N.getD i [] ≠ [] ∧ ¬ On (mgI N wd has i).2 i then ((mgI N wd has i).1.set i (N.getD i []), (mgI N wd has i).2.set i true) else mgI N wd has i := rfl
    rw [hm]
    split
    · rename_i hc
      rw [h4] at hc
      refine ⟨by rw [List.length_set]; exact h1, by rw [List.length_set]; exact h2, fun j => ?_⟩
      have e1 : ((mgI N wd has i).1.set i (N.getD i [])).getD j [] = if j = i then N.getD i [] else (mgI N wd has i).1.getD j [] := getD_lset (by omega) _ _ j
      have e2 : On ((mgI N wd has i).2.set i true) j ↔ On (mgI N wd has i).2 j ∨ j = i := on_set (by omega) j
      show (_ → ((mgI N wd has i).1.set i (N.getD i [])).getD j [] = _ ∧ On ((mgI N wd has i).2.set i true) j) ∧ (_ → ((mgI N wd has i).1.set i (N.getD i [])).getD j [] = _ ∧ (On ((mgI N wd has i).2.set i true) j ↔ _))
      rw [e1, e2]
      by_cases ej : j = i
      · subst ej
        rw [if_pos rfl]
        exact ⟨fun _ => ⟨rfl, .inr rfl⟩, fun hn => absurd ⟨Nat.lt_succ_self j, hc⟩ hn⟩
      · rw [if_neg ej]
        constructor
        · rintro ⟨a, b⟩
          obtain ⟨c1, c2⟩ := (h3 j).1 ⟨by omega, b⟩
          exact ⟨c1, .inl c2⟩
        · intro hn
          obtain ⟨c1, c2⟩ := (h3 j).2 fun e => hn ⟨by omega, e.2⟩
          refine ⟨c1, ?_⟩
          rw [c2]
          exact ⟨fun h => h.elim id fun e => absurd e ej, .inl⟩
    · rename_i hc
      rw [h4] at hc
      refine ⟨h1, h2, fun j => ⟨?_, ?_⟩⟩
      · rintro ⟨a, b⟩
        by_cases ej : j = i
        · subst ej; exact absurd b hc
        · exact (h3 j).1 ⟨by omega, b⟩
      · exact fun hn => (h3 j).2 fun e => hn ⟨by omega, e.2⟩
/-- at level k -/
structure Lvl (D : DfaM) (k : Nat) (wd : List (List Nat)) (has : List Bool) : Prop where
  wl : wd.length = D.next.length
  hl : has.length = D.next.length
  on : ∀ i, i < D.next.length → (On has i ↔ Lev D k i)
  least : ∀ i, i < D.next.length → On has i → LeastW D (wd.getD i []) i
theorem Lvl.short {k : Nat} {wd : List (List Nat)} {has : List Bool} (h : Lvl D k wd has) {i : Nat} (hi : i < D.next.length) (ho : On has i) : (wd.getD i []).length ≤ k := by
  obtain ⟨v, hv, hk⟩ := (h.on i hi).1 ho
  rcases (h.least i hi ho).2 v hv with e | ⟨e, _⟩ <;> omega
/-- a word of k + 1 bytes to a state that no shorter one leads to -/
theorem Lvl.cand (hR : rightD D = true) {k : Nat} {wd : List (List Nat)} {has : List Bool} (h : Lvl D k wd has) {j : Nat} (hj : j < D.next.length) (hno : ¬ On has j) {v : List Nat} (hv : Leads D v j) (hk : v.length = k + 1) :
    ∃ z, Cand D wd has k D.next.length z j ∧ lxB v z = false := by
  obtain ⟨u, b, i, rfl, hb, hu, he⟩ := hv.last hR (by rintro rfl; simp at hk)
  have hul : u.length = k := by simpa using hk
  have hi := hu.lt hR
  have ho := (h.on i hi).2 ⟨u, hu, by omega⟩
  have hs := h.short hi ho
  obtain ⟨l1, l2⟩ := h.least i hi ho
  have hlen : (wd.getD i []).length = k := by
    by_cases e : (wd.getD i []).length = k
    · exact e
    · exact absurd ((h.on j hj).2 ⟨_, l1.snoc hb he, by rw [List.length_append, List.length_singleton]; omega⟩) hno
  have h2 := (rightD_spec hR).2.1
  have hc := wid_ge D.cls hb
  have hcw : D.cls b < D.width.toNat := by omega
  obtain ⟨_, _, hmin⟩ := lb_is hR hcw
  refine ⟨_, ⟨i, D.cls b, hi, ho, hlen, hcw, he, rfl⟩, ?_⟩
  have hmb := hmin b hb rfl
  rw [lx_snoc (by omega)]
  rcases l2 u hu with e | ⟨_, e⟩
  · omega
  · rw [e, Bool.false_or, Bool.and_eq_false_iff]
    exact .inr (decide_eq_false (by omega))
theorem Cand.leads (hR : rightD D = true) {k : Nat} {wd : List (List Nat)} {has : List Bool} (h : Lvl D k wd has) {w : List Nat} {j : Nat} (hc : Cand D wd has k D.next.length w j) : Leads D w j ∧ w.length = k + 1 := by
  obtain ⟨i, c, hi, ho, hk, hcw, he, rfl⟩ := hc
  obtain ⟨l1, l2, _⟩ := lb_is hR hcw
  exact ⟨(h.least i hi ho).1.snoc l1 (by unfold nxtD; rw [l2, Int.toNat_natCast]; exact he), by rw [List.length_append, List.length_singleton, hk]⟩
theorem Lvl.next (hR : rightD D = true) {k : Nat} {wd : List (List Nat)} {has : List Bool} (h : Lvl D k wd has) :
    Lvl D (k + 1) (mgI (nxI D wd has k D.next.length) wd has D.next.length).1 (mgI (nxI D wd has k D.next.length) wd has D.next.length).2 := by
  have hN := nxI_ok hR wd has k D.next.length (Nat.le_refl _)
  generalize nxI D wd has k D.next.length = N at hN
  obtain ⟨m1, m2, m3⟩ := mgI_ok (N := N) h.wl h.hl D.next.length (Nat.le_refl _)
  have open_of : ∀ {j}, ¬ On has j → ¬ (On has j ∧ (wd.getD j []).length ≤ k) := fun hn e => hn e.1
  have closed_of : ∀ {j}, j < D.next.length → On has j → N.getD j [] = [] := fun hj ho => (hN.2 _ hj).1 ⟨ho, h.short hj ho⟩
  refine ⟨m1, m2, fun j hj => ?_, fun j hj ho => ?_⟩
  · by_cases ho : On has j
    · obtain ⟨_, e2⟩ := (m3 j).2 fun e => e.2.2 ho
      rw [e2]
      refine ⟨fun _ => ?_, fun _ => ho⟩
      obtain ⟨v, hv, hk⟩ := (h.on j hj).1 ho
      exact ⟨v, hv, by omega⟩
    · obtain ⟨n1, n2⟩ := (hN.2 j hj).2 (open_of ho)
      by_cases hn : N.getD j [] = []
      · obtain ⟨_, e2⟩ := (m3 j).2 fun e => e.2.1 hn
        rw [e2]
        refine ⟨fun e => absurd e ho, ?_⟩
        rintro ⟨v, hv, hk⟩
        by_cases hle : v.length ≤ k
        · exact (h.on j hj).2 ⟨v, hv, hle⟩
        · obtain ⟨z, hz, _⟩ := h.cand hR hj ho hv (by omega)
          exact absurd hn (n1 z hz).1
      · obtain ⟨_, e2⟩ := (m3 j).1 ⟨hj, hn, ho⟩
        obtain ⟨c1, c2⟩ := (n2 hn).leads hR h
        exact ⟨fun _ => ⟨_, c1, by omega⟩, fun _ => e2⟩
  · by_cases ho' : On has j
    · obtain ⟨e1, _⟩ := (m3 j).2 fun e => e.2.2 ho'
      rw [e1]
      exact h.least j hj ho'
    · obtain ⟨n1, n2⟩ := (hN.2 j hj).2 (open_of ho')
      by_cases hn : N.getD j [] = []
      · obtain ⟨_, e2⟩ := (m3 j).2 fun e => e.2.1 hn
        exact absurd (e2.1 ho) ho'
      · obtain ⟨e1, _⟩ := (m3 j).1 ⟨hj, hn, ho'⟩
        rw [e1]
        obtain ⟨c1, c2⟩ := (n2 hn).leads hR h
        refine ⟨c1, fun v hv => ?_⟩
        by_cases hle : v.length ≤ k
        · exact absurd ((h.on j hj).2 ⟨v, hv, hle⟩) ho'
        · by_cases he : v.length = k + 1
          · obtain ⟨z, hz, hvz⟩ := h.cand hR hj ho' hv he
            exact .inr ⟨by omega, lx_le (n1 z hz).2 hvz⟩
          · exact .inl (by omega)
theorem lvl_all (hR : rightD D = true) : ∀ k, Lvl D k (exS D k).1 (exS D k).2
  | 0 => by
    have hn : 0 < D.next.length := by have := (rightD_spec hR).2.2.1; omega
    refine ⟨List.length_replicate, start_len _, fun i hi => ?_, fun i hi ho => ?_⟩
    · show On ((List.replicate D.next.length false).set 0 true) i ↔ _
      rw [on_start hn]
      constructor
      · rintro rfl; exact ⟨[], leads_nil, Nat.le_refl _⟩
      · rintro ⟨w, hw, hl⟩
        obtain rfl : w = [] := List.length_eq_zero_iff.1 (by omega)
        have := hw.2
        simp [runS] at this
        omega
    · obtain rfl := (on_start hn i).1 ho
      have e : (exS D 0).1.getD 0 [] = [] := by
        show (List.replicate D.next.length ([] : List Nat)).getD 0 [] = []
        rw [List.getD_eq_getElem?_getD, List.getElem?_replicate]; split <;> rfl
      rw [e]
      refine ⟨leads_nil, fun v _ => ?_⟩
      by_cases h : v.length = 0
      · obtain rfl := List.length_eq_zero_iff.1 h
        exact .inr ⟨rfl, rfl⟩
      · exact .inl (by show 0 < v.length; omega)
  | k + 1 => (lvl_all hR k).next hR
theorem best_ok (L : List Int) (t : Int) (wd : List (List Nat)) (has : List Bool) (k : Nat) : ∀ n, match bestE L t wd has k n with
    | none => ∀ i, i < n → ¬ (On has i ∧ (wd.getD i []).length = k ∧ L.getD i 0 = t)
    | some b => (∃ i, i < n ∧ (On has i ∧ (wd.getD i []).length = k ∧ L.getD i 0 = t) ∧ b = wd.getD i []) ∧ ∀ i, i < n → (On has i ∧ (wd.getD i []).length = k ∧ L.getD i 0 = t) → lxB (wd.getD i []) b = false
  | 0 => fun i hi => absurd hi (Nat.not_lt_zero i)
  | n + 1 => by
    have ih := best_ok L t wd has k n
    unfold bestE
    cases hb : bestE L t wd has k n with
    | none =>
      rw [hb] at ih
      simp only at ih ⊢
      by_cases hc : On has n ∧ (wd.getD n []).length = k ∧ L.getD n 0 = t
      · rw [if_pos hc]
        refine ⟨⟨n, by omega, hc, rfl⟩, fun i hi h => ?_⟩
        by_cases e : i = n
        · subst e; exact lx_irr _
        · exact absurd h (ih i (by omega))
      · rw [if_neg hc]
        intro i hi h
        by_cases e : i = n
        · subst e; exact hc h
        · exact ih i (by omega) h
    | some b =>
      rw [hb] at ih
      simp only at ih ⊢
      obtain ⟨⟨a, ha, h1, h2⟩, h3⟩ := ih
      by_cases hc : On has n ∧ (wd.getD n []).length = k ∧ L.getD n 0 = t ∧ lxB (wd.getD n []) b = true
      · rw [if_pos hc]
        refine ⟨⟨n, by omega, ⟨hc.1, hc.2.1, hc.2.2.1⟩, rfl⟩, fun i hi h => ?_⟩
        by_cases e : i = n
        · subst e; exact lx_irr _
        · refine lx_le (y := b) ?_ (h3 i (by omega) h)
          cases h4 : lxB b (wd.getD n []) with
          | false => rfl
          | true => have := lx_trans hc.2.2.2 h4; rw [lx_irr] at this; cases this
      · rw [if_neg hc]
        refine ⟨⟨a, by omega, h1, h2⟩, fun i hi h => ?_⟩
        by_cases e : i = n
        · subst e
          cases h4 : lxB (wd.getD i []) b with
          | false => rfl
          | true => exact absurd ⟨h.1, h.2.1, h.2.2, h4⟩ hc
        · exact h3 i (by omega) h
/-- no word shorter than k is read with label t -/
def NoneB (D : DfaM) (t : Int) (k : Nat) : Prop := ∀ v, (∀ b ∈ v, b < 256) → labelD D (runD D v) = t → k ≤ v.length
theorem best_some (hR : rightD D = true) {t : Int} (ht : 0 ≤ t) {k : Nat} (hno : NoneB D t k) {w : List Nat} (h : exB D t k = some w) : ExSpec D t (some w) := by
  have hb := best_ok D.label t (exS D k).1 (exS D k).2 k D.next.length
  have hL := lvl_all hR k
  unfold exB at h
  rw [h] at hb
  obtain ⟨⟨i, hi, ⟨ho, hk, hl⟩, rfl⟩, hmin⟩ := hb
  have hw := (hL.least i hi ho).1
  refine ⟨hw.1, leads_reads hR hw hl, fun v hv hvt => ?_⟩
  have hvk := hno v hv hvt
  obtain ⟨j, hj, hjl, hjt⟩ := reads_leads hR ht hv hvt
  by_cases e : v.length = k
  · have hoj := (hL.on j hjl).2 ⟨v, hj, by omega⟩
    have hs := hL.short hjl hoj
    obtain ⟨q1, q2⟩ := hL.least j hjl hoj
    have hq := hno _ q1.1 (leads_reads hR q1 hjt)
    have hlen : ((exS D k).1.getD j []).length = k := by omega
    refine .inr ⟨by omega, lx_le (hmin j hjl ⟨hoj, hlen, hjt⟩) ?_⟩
    rcases q2 v hj with a | ⟨_, a⟩
    · omega
    · exact a
  · exact .inl (by omega)
theorem best_none (hR : rightD D = true) {t : Int} (ht : 0 ≤ t) {k : Nat} (hno : NoneB D t k) (h : exB D t k = none) : NoneB D t (k + 1) := by
  have hb := best_ok D.label t (exS D k).1 (exS D k).2 k D.next.length
  have hL := lvl_all hR k
  unfold exB at h
  rw [h] at hb
  intro v hv hvt
  have hvk := hno v hv hvt
  by_cases e : v.length = k
  · obtain ⟨j, hj, hjl, hjt⟩ := reads_leads hR ht hv hvt
    have hoj := (hL.on j hjl).2 ⟨v, hj, by omega⟩
    have hs := hL.short hjl hoj
    have q1 := (hL.least j hjl hoj).1
    have hq := hno _ q1.1 (leads_reads hR q1 hjt)
    exact absurd ⟨hoj, by omega, hjt⟩ (hb j hjl)
  · omega
theorem exGo_ok (hR : rightD D = true) {t : Int} (ht : 0 ≤ t) : ∀ m k, D.next.length ≤ k + m → NoneB D t k → ExSpec D t (exGo D t m k)
  | 0, k, hk, hno => fun w hw h => by
    obtain ⟨j, hj, hjl, hjt⟩ := reads_leads hR ht hw h
    obtain ⟨v, hv, hvl⟩ := lev_all hR (leads_rch hR _ w rfl j hj)
    have := hno v hv.1 (leads_reads hR hv hjt)
    omega
  | m + 1, k, hk, hno => by
    unfold exGo
    cases h : exB D t k with
    | some w => exact best_some hR ht hno h
    | none => exact exGo_ok hR ht m (k + 1) (by omega) (best_none hR ht hno h)
theorem exM_ok (hR : rightD D = true) {t : Int} (ht : 0 ≤ t) : ExSpec D t (exM D t) := by
  unfold exM
  rw [if_pos ⟨hR, ht⟩]
  exact exGo_ok hR ht _ 0 (by omega) fun v _ _ => Nat.zero_le _
end
end Go.Proofs.YtnjjbaodfjmiaaaGreat

/- The states that words lead to, in the order of their least words: rows are processed state by state, class by class. Of no program. -/
namespace Go.Proofs.YtnjjbaodfjmiaaaGreat

/-- shorter, or as short and less; not longer, nor as short and more -/
def ltW (a b : List Nat) : Prop := a.length < b.length ∨ (a.length = b.length ∧ lxB a b = true)
def leW (a b : List Nat) : Prop := a.length < b.length ∨ (a.length = b.length ∧ lxB b a = false)
theorem lx_asymm {a b : List Nat} (h : lxB a b = true) : lxB b a = false := by
  cases h2 : lxB b a with
  | false => rfl
  | true => have := lx_trans h h2; rw [lx_irr] at this; cases this
theorem ltW.le {a b : List Nat} (h : ltW a b) : leW a b := by
  rcases h with h | ⟨h, k⟩
  · exact .inl h
  · exact .inr ⟨h, lx_asymm k⟩
theorem leW.refl (a : List Nat) : leW a a := .inr ⟨rfl, lx_irr a⟩
theorem leW.trans {a b c : List Nat} (h : leW a b) (k : leW b c) : leW a c := by
  rcases h with h | ⟨h, h'⟩ <;> rcases k with k | ⟨k, k'⟩
  · exact .inl (by omega)
  · exact .inl (by omega)
  · exact .inl (by omega)
  · exact .inr ⟨by omega, lx_le h' k'⟩
theorem ltW.snoc {a b : List Nat} (h : ltW a b) (x y : Nat) : ltW (a ++ [x]) (b ++ [y]) := by
  rcases h with h | ⟨h, k⟩
  · exact .inl (by simp; omega)
  · exact .inr ⟨by simp [h], by rw [lx_snoc h, k]; rfl⟩
theorem ltW.last (a : List Nat) {x y : Nat} (h : x < y) : ltW (a ++ [x]) (a ++ [y]) := .inr ⟨by simp, by rw [lx_snoc rfl]; simp [h]⟩
theorem leW.snoc {a b : List Nat} (h : leW a b) {x y : Nat} (hxy : x ≤ y) : leW (a ++ [x]) (b ++ [y]) := by
  rcases h with h | ⟨h, k⟩
  · exact .inl (by simp; omega)
  · refine .inr ⟨by simp [h], ?_⟩
    rw [lx_snoc h.symm, k, Bool.false_or, Bool.and_eq_false_iff]
    exact .inr (decide_eq_false (by omega))

/-- the classes of bytes come one after another -/
theorem rgt_pre (g : Nat → Nat) : ∀ n m b nx, rgt g (n + m) b nx = true → rgt g n b nx = true
  | 0, _, _, _, _ => rfl
  | n + 1, m, b, nx, h => by
    rw [show n + 1 + m = (n + m) + 1 by omega] at h
    unfold rgt at h ⊢
    split at h
    · cases h
    · rename_i hb
      rw [if_neg hb]
      exact rgt_pre g n m _ _ h
theorem rgt_at (g : Nat → Nat) : ∀ n b nx, rgt g (n + 1) b nx = true → nx = wid g b → g (b + n) ≤ wid g (b + n)
  | 0, b, nx, h, e => by
    unfold rgt at h
    split at h
    · cases h
    · show g b ≤ wid g b
      omega
  | n + 1, b, nx, h, e => by
    unfold rgt at h
    split at h
    · cases h
    · rename_i hb
      have hw : wid g (b + 1) = max (wid g b) (g b + 1) := rfl
      have := rgt_at g n (b + 1) _ h (by rw [hw, ← e]; split <;> omega)
      rw [show b + (n + 1) = b + 1 + n by omega]
      exact this
theorem lb_lt {D : DfaM} (hR : rightD D = true) {c c' : Nat} (h : c < c') (hc : c' < D.width.toNat) : lbC D.cls c < lbC D.cls c' := by
  obtain ⟨h1, _⟩ := rightD_spec hR
  obtain ⟨l1, l2, _⟩ := lb_is hR hc
  obtain ⟨_, _, k3⟩ := lb_is hR (show c < D.width.toNat by omega)
  have h2 : rgt D.cls (lbC D.cls c' + 1) 0 0 = true := rgt_pre D.cls (lbC D.cls c' + 1) (256 - (lbC D.cls c' + 1)) 0 0 (by rw [show lbC D.cls c' + 1 + (256 - (lbC D.cls c' + 1)) = 256 by omega]; exact h1)
  have h3 := rgt_at D.cls (lbC D.cls c') 0 0 h2 rfl
  rw [Nat.zero_add, l2] at h3
  have h4 : rgt D.cls (lbC D.cls c') 0 0 = true := rgt_pre D.cls (lbC D.cls c') 1 0 0 h2
  obtain ⟨j, hj, e⟩ := rgt_sur D.cls (lbC D.cls c') 0 0 h4 rfl (fun c hc => absurd hc (Nat.not_lt_zero c)) c (by rw [Nat.zero_add]; omega)
  have := k3 j (by omega) e
  omega

/-- a state, and a word that leads to it -/
abbrev Vis := Nat × List Nat
def inV (V : List Vis) (x : Nat) : Prop := x ∈ V.map (·.1)
instance (V : List Vis) (x : Nat) : Decidable (inV V x) := inferInstanceAs (Decidable (_ ∈ _))
/-- class c of the row of state s, to which u leads -/
def visS (D : DfaM) (s : Nat) (u : List Nat) (V : List Vis) (c : Nat) : List Vis :=
  if toD D s c < 0 ∨ inV V (toD D s c).toNat then V else V ++ [((toD D s c).toNat, u ++ [lbC D.cls c])]
def visC (D : DfaM) (s : Nat) (u : List Nat) (V : List Vis) : Nat → List Vis
  | 0 => V
  | c + 1 => visS D s u (visC D s u V c) c
def visN (D : DfaM) : Nat → List Vis
  | 0 => [(0, [])]
  | n + 1 => match (visN D n)[n]? with
    | none => visN D n
    | some x => visC D x.1 x.2 (visN D n) D.width.toNat
/-- all of them -/
def visA (D : DfaM) : List Vis := visN D D.next.length
section
variable {D : DfaM}
theorem visS_pre (s : Nat) (u : List Nat) (V : List Vis) (c : Nat) : V <+: visS D s u V c := by
  unfold visS
  split
  · exact List.prefix_rfl
  · exact List.prefix_append _ _
theorem visC_pre (s : Nat) (u : List Nat) (V : List Vis) (a : Nat) : ∀ d, visC D s u V a <+: visC D s u V (a + d)
  | 0 => List.prefix_rfl
  | d + 1 => (visC_pre s u V a d).trans (visS_pre s u _ _)
theorem visN_pre (a : Nat) : ∀ d, visN D a <+: visN D (a + d)
  | 0 => List.prefix_rfl
  | d + 1 => by
    refine (visN_pre a d).trans ?_
    show visN D (a + d) <+: visN D (a + d + 1)
    conv => rhs; unfold visN
    split
    · exact List.prefix_rfl
    · rename_i x _
      have := visC_pre (D := D) x.1 x.2 (visN D (a + d)) 0 D.width.toNat
      rw [Nat.zero_add] at this
      exact this
theorem visN_more {n : Nat} {x : Vis} (h : (visN D n)[n]? = some x) : visN D (n + 1) = visC D x.1 x.2 (visN D n) D.width.toNat := by
  conv => lhs; unfold visN
  rw [h]
theorem visN_stop {n : Nat} (h : (visN D n).length ≤ n) : ∀ d, visN D (n + d) = visN D n
  | 0 => rfl
  | d + 1 => by
    have ih := visN_stop h d
    show visN D (n + d + 1) = _
    conv => lhs; unfold visN
    rw [ih, List.getElem?_eq_none (by omega)]
/-- what is true of all that was found, behind c classes of the row of the h-th of them -/
structure VisOk (D : DfaM) (V : List Vis) (h c : Nat) : Prop where
  nodup : (V.map (·.1)).Nodup
  leads : ∀ x ∈ V, Leads D x.2 x.1
  sorted : V.Pairwise fun x y => ltW x.2 y.2
  zero : V[0]? = some (0, [])
  cand : ∀ x ∈ V, x.2 = [] ∨ ∃ k y d, V[k]? = some y ∧ (k < h ∨ (k = h ∧ d < c)) ∧ d < D.width.toNat ∧ x.2 = y.2 ++ [lbC D.cls d]
  done : ∀ k y d, V[k]? = some y → (k < h ∨ (k = h ∧ d < c)) → d < D.width.toNat → ∀ j : Nat, toD D y.1 d = (j : Int) → ∃ v, (j, v) ∈ V ∧ leW v (y.2 ++ [lbC D.cls d])
theorem VisOk.start : VisOk D [(0, [])] 0 0 where
  nodup := by simp
  leads := fun x hx => by
    simp only [List.mem_singleton] at hx
    subst hx
    exact leads_nil
  sorted := by simp
  zero := rfl
  cand := fun x hx => by
    simp only [List.mem_singleton] at hx
    subst hx
    exact .inl rfl
  done := fun k y d _ h => by rcases h with h | h <;> omega
theorem VisOk.next {V : List Vis} {h : Nat} (H : VisOk D V h D.width.toNat) : VisOk D V (h + 1) 0 where
  nodup := H.nodup
  leads := H.leads
  sorted := H.sorted
  zero := H.zero
  cand := fun x hx => (H.cand x hx).imp id fun ⟨k, y, d, e, hk, hd, e2⟩ => ⟨k, y, d, e, .inl (by omega), hd, e2⟩
  done := fun k y d e hk hd => H.done k y d e (by omega) hd
theorem VisOk.less {V : List Vis} {h c : Nat} (H : VisOk D V h c) (hR : rightD D = true) {s : Nat} {u : List Nat} (hs : V[h]? = some (s, u)) (hc : c < D.width.toNat) : ∀ x ∈ V, ltW x.2 (u ++ [lbC D.cls c]) := by
  intro x hx
  rcases H.cand x hx with e | ⟨k, y, d, hy, hk, hd, e⟩
  · rw [e]
    exact .inl (by simp)
  · rw [e]
    obtain ⟨hk1, hk2⟩ := List.getElem?_eq_some_iff.1 hy
    obtain ⟨hs1, hs2⟩ := List.getElem?_eq_some_iff.1 hs
    rcases hk with hk | ⟨rfl, hdc⟩
    · have := List.pairwise_iff_getElem.1 H.sorted k h hk1 hs1 hk
      rw [hk2, hs2] at this
      exact this.snoc _ _
    · rw [hs] at hy
      obtain rfl := Option.some.inj hy
      exact ltW.last u (lb_lt hR hdc hc)
theorem VisOk.step {V : List Vis} {h c : Nat} (H : VisOk D V h c) (hR : rightD D = true) {s : Nat} {u : List Nat} (hs : V[h]? = some (s, u)) (hc : c < D.width.toNat) : VisOk D (visS D s u V c) h (c + 1) := by
  have hless := H.less hR hs hc
  have hsl := (List.getElem?_eq_some_iff.1 hs).1
  have hsm : (s, u) ∈ V := List.mem_of_getElem? hs
  have hcand : ∀ x ∈ V, x.2 = [] ∨ ∃ k y d, V[k]? = some y ∧ (k < h ∨ (k = h ∧ d < c + 1)) ∧ d < D.width.toNat ∧ x.2 = y.2 ++ [lbC D.cls d] :=
    fun x hx => (H.cand x hx).imp id fun ⟨k, y, d, e, hk, hd, e2⟩ => ⟨k, y, d, e, by omega, hd, e2⟩
  unfold visS
  split
  · rename_i hx
    refine ⟨H.nodup, H.leads, H.sorted, H.zero, hcand, fun k y d e hk hd j hj => ?_⟩
    by_cases hold : k < h ∨ (k = h ∧ d < c)
    · exact H.done k y d e hold hd j hj
    · obtain ⟨rfl, rfl⟩ : k = h ∧ d = c := by omega
      rw [hs] at e
      obtain rfl := Option.some.inj e
      simp only at hj
      rw [hj, Int.toNat_natCast] at hx
      rcases hx with hx | hx
      · omega
      · obtain ⟨x, hxm, hxe⟩ := List.mem_map.1 hx
        obtain ⟨a, v⟩ := x
        simp only at hxe
        subst hxe
        exact ⟨v, hxm, (hless _ hxm).le⟩
  · rename_i hx
    obtain ⟨j, hj⟩ : ∃ j : Nat, toD D s c = j := ⟨(toD D s c).toNat, by
      by_cases h0 : toD D s c < 0
      · exact absurd (.inl h0) hx
      · omega⟩
    rw [hj, Int.toNat_natCast] at hx ⊢
    have hnew : ¬ inV V j := fun e => hx (.inr e)
    obtain ⟨b1, b2, _⟩ := lb_is hR hc
    have hlead : Leads D (u ++ [lbC D.cls c]) j := (H.leads _ hsm).snoc b1 (by unfold nxtD; rw [b2, Int.toNat_natCast]; exact hj)
    have hget : ∀ {k : Nat} {y : Vis}, k ≤ h → (V ++ [(j, u ++ [lbC D.cls c])])[k]? = some y → V[k]? = some y := fun hk e => by
      rwa [List.getElem?_append_left (by omega)] at e
    have hput : ∀ {k : Nat} {y : Vis}, V[k]? = some y → (V ++ [(j, u ++ [lbC D.cls c])])[k]? = some y := fun e => by
      rw [List.getElem?_append_left (List.getElem?_eq_some_iff.1 e).1]; exact e
    refine ⟨?_, ?_, ?_, hput H.zero, ?_, ?_⟩
    · rw [List.map_append, List.nodup_append]
      refine ⟨H.nodup, by simp, fun a ha b hb => ?_⟩
      simp only [List.map_cons, List.map_nil, List.mem_singleton] at hb
      subst hb
      exact fun e => hnew (e ▸ ha)
    · intro x hx
      rcases List.mem_append.1 hx with hx | hx
      · exact H.leads x hx
      · simp only [List.mem_singleton] at hx
        subst hx
        exact hlead
    · rw [List.pairwise_append]
      refine ⟨H.sorted, by simp, fun a ha b hb => ?_⟩
      simp only [List.mem_singleton] at hb
      subst hb
      exact hless a ha
    · intro x hx
      rcases List.mem_append.1 hx with hx | hx
      · exact (hcand x hx).imp id fun ⟨k, y, d, e, r⟩ => ⟨k, y, d, hput e, r⟩
      · simp only [List.mem_singleton] at hx
        subst hx
        exact .inr ⟨h, (s, u), c, hput hs, by omega, hc, rfl⟩
    · intro k y d e hk hd i hi
      by_cases hold : k < h ∨ (k = h ∧ d < c)
      · obtain ⟨v, hv, hl⟩ := H.done k y d (hget (by omega) e) hold hd i hi
        exact ⟨v, List.mem_append_left _ hv, hl⟩
      · obtain ⟨rfl, rfl⟩ : k = h ∧ d = c := by omega
        have e := hget (Nat.le_refl _) e
        rw [hs] at e
        obtain rfl := Option.some.inj e
        simp only at hi
        obtain rfl : i = j := by omega
        exact ⟨_, List.mem_append_right _ (List.mem_singleton.2 rfl), leW.refl _⟩
theorem VisOk.row {V : List Vis} {h : Nat} (H : VisOk D V h 0) (hR : rightD D = true) {s : Nat} {u : List Nat} (hs : V[h]? = some (s, u)) : ∀ c, c ≤ D.width.toNat → VisOk D (visC D s u V c) h c
  | 0, _ => H
  | c + 1, hc => by
    refine (H.row hR hs c (by omega)).step hR ?_ (by omega)
    have hp := visC_pre (D := D) s u V 0 c
    rw [Nat.zero_add] at hp
    exact pre_get hp hs
theorem visN_ok (hR : rightD D = true) : ∀ n, n ≤ (visN D n).length → VisOk D (visN D n) n 0
  | 0, _ => VisOk.start
  | n + 1, hn => by
    cases e : (visN D n)[n]? with
    | none =>
      have h1 : (visN D n).length ≤ n := List.getElem?_eq_none_iff.1 e
      have h2 := visN_stop h1 1
      rw [h2] at hn
      omega
    | some x =>
      obtain ⟨s, u⟩ := x
      have hlt := (List.getElem?_eq_some_iff.1 e).1
      rw [visN_more e]
      exact ((visN_ok hR n (by omega)).row hR e _ (Nat.le_refl _)).next
/-- states are found once each: there are no more than the machine has -/
theorem nodup_butV (a : Nat) : ∀ {l : List Nat}, l.Nodup → l.length ≤ (l.filter fun x => decide (x ≠ a)).length + 1
  | [], _ => Nat.zero_le _
  | b :: l, h => by
    obtain ⟨h1, h2⟩ := List.nodup_cons.1 h
    by_cases e : b = a
    · subst e
      have : l.filter (fun x => decide (x ≠ b)) = l := List.filter_eq_self.2 fun x hx => decide_eq_true fun hxb => h1 (hxb ▸ hx)
      rw [List.filter_cons_of_neg (by simp), this, List.length_cons]
      exact Nat.le_refl _
    · rw [List.filter_cons_of_pos (by simpa using e), List.length_cons, List.length_cons]
      exact Nat.succ_le_succ (nodup_butV a h2)
theorem nodup_lenV : ∀ {n : Nat} {l : List Nat}, l.Nodup → (∀ x ∈ l, x < n) → l.length ≤ n
  | 0, l, _, h2 => by
    cases l with
    | nil => exact Nat.le_refl _
    | cons a l => exact absurd (h2 a (List.mem_cons_self ..)) (Nat.not_lt_zero a)
  | n + 1, l, h1, h2 => by
    have := nodup_lenV (n := n) (h1.filter fun x => decide (x ≠ n)) fun x hx => by
      obtain ⟨h3, h4⟩ := List.mem_filter.1 hx
      have := h2 x h3
      have : x ≠ n := by simpa using h4
      omega
    exact Nat.le_trans (nodup_butV n h1) (Nat.succ_le_succ this)
theorem VisOk.len {V : List Vis} {h c : Nat} (H : VisOk D V h c) (hR : rightD D = true) : V.length ≤ D.next.length := by
  have := nodup_lenV H.nodup (n := D.next.length) fun x hx => by
    obtain ⟨y, hy, rfl⟩ := List.mem_map.1 hx
    exact (H.leads y hy).lt hR
  simpa using this
/-- where the search ends -/
theorem visN_end (hR : rightD D = true) {n : Nat} (hn : n ≤ (visN D n).length) (he : (visN D n).length ≤ n) : visN D n = visA D := by
  have h1 := (visN_ok hR n hn).len hR
  unfold visA
  obtain ⟨d, hd⟩ : ∃ d, D.next.length = n + d := ⟨D.next.length - n, by omega⟩
  rw [hd, visN_stop he d]
theorem visN_all (hR : rightD D = true) {n : Nat} (hn : n ≤ (visN D n).length) : visN D n <+: visA D := by
  have h1 := (visN_ok hR n hn).len hR
  unfold visA
  obtain ⟨d, hd⟩ : ∃ d, D.next.length = n + d := ⟨D.next.length - n, by omega⟩
  rw [hd]
  exact visN_pre n d
theorem visC_all (hR : rightD D = true) {n : Nat} {s : Nat} {u : List Nat} (hs : (visN D n)[n]? = some (s, u)) {c : Nat} (hc : c ≤ D.width.toNat) : visC D s u (visN D n) c <+: visA D := by
  have hlt := (List.getElem?_eq_some_iff.1 hs).1
  have h2 := visN_more hs
  obtain ⟨d, hd⟩ : ∃ d, D.width.toNat = c + d := ⟨D.width.toNat - c, by omega⟩
  have h3 : visC D s u (visN D n) c <+: visN D (n + 1) := by
    rw [h2, hd]
    exact visC_pre s u _ c d
  refine h3.trans (visN_all hR ?_)
  have := (visN_pre (D := D) n 1).length_le
  by_cases e : n + 1 ≤ (visN D (n + 1)).length
  · exact e
  · omega
/-- all is found: behind all rows -/
theorem vis_done (hR : rightD D = true) : ∃ n, n = (visA D).length ∧ VisOk D (visA D) n 0 := by
  have : ∀ n, n ≤ D.next.length → ∃ m, m = (visN D m).length ∧ m ≤ n ∨ n ≤ (visN D n).length := fun n _ => by
    induction n with
    | zero => exact ⟨0, .inr (Nat.zero_le _)⟩
    | succ n ih =>
      obtain ⟨m, h | h⟩ := ih (by omega)
      · exact ⟨m, .inl ⟨h.1, by omega⟩⟩
      · by_cases e : n < (visN D n).length
        · refine ⟨0, .inr ?_⟩
          by_cases e2 : n + 1 ≤ (visN D (n + 1)).length
          · exact e2
          · have := (visN_pre (D := D) n 1).length_le
            omega
        · exact ⟨n, .inl ⟨by omega, by omega⟩⟩
  obtain ⟨m, h | h⟩ := this D.next.length (Nat.le_refl _)
  · have e := visN_end hR (n := m) (by omega) (by omega)
    refine ⟨m, by rw [← e]; exact h.1, ?_⟩
    rw [← e]
    exact visN_ok hR m (by omega)
  · have h1 := visN_ok hR _ h
    have h2 := h1.len hR
    refine ⟨D.next.length, ?_, h1⟩
    unfold visA
    omega
/-- each word has one that is no more, to the same state -/
theorem vis_least (hR : rightD D = true) : ∀ (m : Nat) (w : List Nat), w.length = m → ∀ j, Leads D w j → ∃ v, (j, v) ∈ visA D ∧ leW v w
  | 0, w, hm, j, hw => by
    obtain rfl := List.length_eq_zero_iff.1 hm
    obtain ⟨n, _, H⟩ := vis_done hR
    have h2 := hw.2
    obtain rfl : j = 0 := by simp [runS] at h2; omega
    exact ⟨[], List.mem_of_getElem? H.zero, leW.refl _⟩
  | m + 1, w, hm, j, hw => by
    obtain ⟨v, b, i, rfl, hb, hv, he⟩ := hw.last hR (by rintro rfl; simp at hm)
    obtain ⟨y, hy, hle⟩ := vis_least hR m v (by simpa using hm) i hv
    obtain ⟨n, hn, H⟩ := vis_done hR
    obtain ⟨k, hk⟩ := List.getElem?_of_mem hy
    have hkl := (List.getElem?_eq_some_iff.1 hk).1
    have h2 := (rightD_spec hR).2.1
    have h3 := wid_ge D.cls hb
    have hcw : D.cls b < D.width.toNat := by omega
    obtain ⟨z, hz, hl⟩ := H.done k (i, y) (D.cls b) hk (.inl (by omega)) hcw j he
    obtain ⟨_, _, hmin⟩ := lb_is hR hcw
    exact ⟨z, hz, hl.trans (hle.snoc (hmin b hb rfl))⟩
theorem vis_sound (hR : rightD D = true) : ∀ x ∈ visA D, Leads D x.2 x.1 := by
  obtain ⟨_, _, H⟩ := vis_done hR
  exact H.leads
theorem vis_rch (hR : rightD D = true) (j : Nat) : inV (visA D) j ↔ Rch D j := by
  constructor
  · intro h
    obtain ⟨x, hx, rfl⟩ := List.mem_map.1 h
    exact leads_rch hR _ _ rfl _ (vis_sound hR x hx)
  · intro h
    obtain ⟨w, hw⟩ := rch_leads hR h
    obtain ⟨v, hv, _⟩ := vis_least hR _ w rfl j hw
    exact List.mem_map.2 ⟨_, hv, rfl⟩
/-- the first visit of a state with label t, or none has it -/
def firstV (D : DfaM) (t : Int) (V : List Vis) : Option (List Nat) := (V.find? fun x => decide (D.label.getD x.1 0 = t)).map (·.2)
theorem vis_example (hR : rightD D = true) {t : Int} (ht : 0 ≤ t) : ExSpec D t (firstV D t (visA D)) := by
  obtain ⟨_, _, H⟩ := vis_done hR
  unfold firstV
  cases e : (visA D).find? fun x => decide (D.label.getD x.1 0 = t) with
  | none =>
    intro w hw hwt
    obtain ⟨i, hi, _, hl⟩ := reads_leads hR ht hw hwt
    obtain ⟨v, hv, _⟩ := vis_least hR _ w rfl i hi
    have := List.find?_eq_none.1 e _ hv
    simp only [hl, decide_true, not_true_eq_false] at this
  | some x =>
    obtain ⟨h1, pa, pb, h2, h3⟩ := List.find?_eq_some_iff_append.1 e
    have hx : x ∈ visA D := by rw [h2]; simp
    have hlx := vis_sound hR x hx
    refine ⟨hlx.1, leads_reads hR hlx (by simpa using h1), fun w hw hwt => ?_⟩
    obtain ⟨i, hi, _, hl⟩ := reads_leads hR ht hw hwt
    obtain ⟨v, hv, hle⟩ := vis_least hR _ w rfl i hi
    have hxv : leW x.2 v := by
      rw [h2] at hv
      rcases List.mem_append.1 hv with hv | hv
      · have := h3 _ hv
        simp only [hl, decide_true, Bool.not_true, Bool.false_eq_true] at this
      · rcases List.mem_cons.1 hv with hv | hv
        · rw [← hv]
          exact leW.refl _
        · have hs := H.sorted
          rw [h2, List.pairwise_append] at hs
          exact ((List.pairwise_cons.1 hs.2.1).1 _ hv).le
    exact hxv.trans hle
end
end Go.Proofs.YtnjjbaodfjmiaaaGreat
