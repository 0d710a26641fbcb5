/- DfFind, DfMath, KiAsk, KiWid, put together. -/
import Derived.Test.YtnjjbaodfjmiaaaGreatLt24
import Derived.Test.YtnjjbaodfjmiaaaGreatLt07
import Derived.Test.YtnjjbaodfjmiaaaGreatLt23
/- Contract of the reference's find: where a list stands among others. -/
namespace Go.Proofs.YtnjjbaodfjmiaaaGreat
open Go.RowKit

/-- from place k on: where x stands; -1 -/
def findI (x : List Int) : List (List Int) → Nat → Int
  | [], _ => -1
  | y :: r, k => if y = x then (k : Int) else findI x r (k + 1)
theorem findI_ge (x : List Int) : ∀ (l : List (List Int)) (k : Nat), findI x l k = -1 ∨ ((k : Int) ≤ findI x l k ∧ findI x l k < k + l.length)
  | [], k => .inl rfl
  | y :: r, k => by
    unfold findI
    split
    · right; simp; omega
    · rcases findI_ge x r (k + 1) with h | h
      · exact .inl h
      · right; simp; omega
theorem findI_yes (x : List Int) : ∀ (l : List (List Int)) (k : Nat), 0 ≤ findI x l k → l.getD (findI x l k - k).toNat [] = x
  | [], k, h => by simp [findI] at h
  | y :: r, k, h => by
    unfold findI at h ⊢
    by_cases e : y = x
    · rw [if_pos e]; simp [e]
    · rw [if_neg e] at h ⊢
      have := findI_yes x r (k + 1) h
      have hg := findI_ge x r (k + 1)
      rw [show (findI x r (k + 1) - (k : Int)).toNat = (findI x r (k + 1) - ((k + 1 : Nat) : Int)).toNat + 1 by omega]
      simpa using this
theorem findI_no (x : List Int) : ∀ (l : List (List Int)) (k : Nat), findI x l k = -1 ↔ x ∉ l
  | [], k => by simp [findI]
  | y :: r, k => by
    unfold findI
    by_cases e : y = x
    · rw [if_pos e]; simp [e] <;> omega
    · rw [if_neg e, findI_no x r (k + 1)]
      simp [Ne.symm e]

set_option maxRecDepth 100000 in
theorem find14_calls {w : World} {vl vx : Value} {l : List (List Int)} {x : List Int} (h : RdZZ w.heap.size w vl l) (hx : RdZ w.heap.size w vx x) :
    Calls Tryz.prog 66 #[vl, vx] w fun e w' => e = .returned (.int .i64 (findI x l 0)) ∧ Below w.heap.size w w' := by
  obtain ⟨al, cl, rfl⟩ := h.form
  have hbd : l.length ≤ 9223372036854775807 := by
    obtain ⟨_, _, e, h1, h2, _⟩ := h
    unfold maxLen at h2
    omega
  have HL := hidden h
  have HX := hidden hx
  obtain ⟨n, hn⟩ : ∃ n, n = l.length := ⟨_, rfl⟩
  rw [← hn] at hbd ⊢
  have HN := hidden hn
  clear h hx hn
  go_enter Tryz.func66, Tryz.ntmps66
  go_wp2
  go_loopw [5] (fun i wr => ∃ k : Nat, k ≤ n ∧ i = .int .i64 k ∧ findI x l 0 = findI x (l.drop k) k ∧ Below w.heap.size w wr) (fun i _ => n - (Go.RowKit.intOf i).toNat)
  case atStart => exact ⟨0, by omega, rfl, rfl, Below.refl _ _⟩
  case round =>
    obtain ⟨k, hk, rfl, hf, hb⟩ := hrel
    have HB := hidden hb
    clear hb
    by_cases hlt : k < n
    · rw [List.drop_eq_getElem_cons (by rw [← HN.out]; exact hlt), findI] at hf
      have hg : l[k]'(by rw [← HN.out]; exact hlt) = l.getD k [] := by simp [List.getD_eq_getElem?_getD, show k < l.length by rw [← HN.out]; exact hlt]
      rw [hg] at hf
      obtain ⟨b, off, a', c', rfl, hbb, hc, hr⟩ := (HN.out ▸ HL.out).at HB.out k (by rw [← HN.out]; exact hlt)
      have HR := hidden (rsame_calls (w := wr) hr (HX.out.below HB.out (Nat.le_refl _)))
      have HF := hidden hf
      clear hf hg hr
      go_wp2_with fail
      refine HR.out.mono ?_
      rintro e w5 ⟨rfl, hb5⟩
      have HB5 := hidden (below_then HB.out HB.out.size hb5)
      clear hb5
      by_cases he : l.getD k [] = x
      · have hff := HF.out
        rw [if_pos he] at hff
        have HFF := hidden hff
        rw [decide_eq_true he]
        clear HF hff he
        go_wp2
        go_ret
        exact ⟨ret_i HFF.out.symm, HB5.out⟩
      · have hff := HF.out
        rw [if_neg he] at hff
        have HFF := hidden hff
        rw [decide_eq_false he]
        clear HF hff he
        go_wp2
        go_roundw
        case rel => exact ⟨k + 1, by omega, by go_num, HFF.out, HB5.out⟩
        case measure => simp [Go.RowKit.intOf]; omega
    · obtain rfl : k = n := by omega
      rw [List.drop_eq_nil_of_le (by rw [← HN.out]; exact Nat.le_refl _), findI] at hf
      have HF := hidden hf
      clear hf
      go_wp2
      go_ret
      exact ⟨ret_i HF.out.symm, HB.out⟩
end Go.Proofs.YtnjjbaodfjmiaaaGreat

/- How a machine of lists is found: over any steps: what the loop holds after each round, that it stops, that each place stands for its list. -/
namespace Go.Proofs.YtnjjbaodfjmiaaaGreat
open Go.RowKit

section
variable (go : Nat → List Int → Nat → List Int) (tok : List Int → Int) (W : Nat)
/-- what is found, and the row, behind one class more -/
def clsS (i : Nat) (s : List (List Int) × List Int) (c : Nat) : List (List Int) × List Int :=
  if go i (s.1.getD i []) c = [] then (s.1, s.2 ++ [-1])
  else if findI (go i (s.1.getD i []) c) s.1 0 < 0 then (s.1 ++ [go i (s.1.getD i []) c], s.2 ++ [(s.1.length : Int)])
  else (s.1, s.2 ++ [findI (go i (s.1.getD i []) c) s.1 0])
/-- behind c classes of row i -/
def rowS (i : Nat) (F : List (List Int)) : Nat → List (List Int) × List Int
  | 0 => (F, [])
  | c + 1 => clsS go i (rowS i F c) c
/-- behind i rows: what is found, the rows, the labels -/
def outS : Nat → List (List Int) × List (List Int) × List Int
  | 0 => ([[]], [], [])
  | i + 1 => if i < (outS i).1.length then ((rowS go i (outS i).1 W).1, (outS i).2.1 ++ [(rowS go i (outS i).1 W).2], (outS i).2.2 ++ [tok ((rowS go i (outS i).1 W).1.getD i [])]) else outS i

theorem clsS_pre (i : Nat) (s : List (List Int) × List Int) (c : Nat) : s.1 <+: (clsS go i s c).1 := by
  unfold clsS
  split
  · exact List.prefix_rfl
  · split
    · exact List.prefix_append _ _
    · exact List.prefix_rfl
theorem rowS_pre (i : Nat) (F : List (List Int)) {c d : Nat} (h : c ≤ d) : (rowS go i F c).1 <+: (rowS go i F d).1 := by
  induction d with
  | zero => obtain rfl : c = 0 := by omega
            exact List.prefix_rfl
  | succ d ih =>
    by_cases e : c = d + 1
    · subst e; exact List.prefix_rfl
    · exact (ih (by omega)).trans (clsS_pre go i _ d)
theorem outS_step (i : Nat) : (outS go tok W i).1 <+: (outS go tok W (i + 1)).1 := by
  show (outS go tok W i).1 <+: (if _ then _ else _ : _ × _ × _).1
  split
  · exact rowS_pre go i _ (Nat.zero_le W)
  · exact List.prefix_rfl
theorem outS_pre {i j : Nat} (h : i ≤ j) : (outS go tok W i).1 <+: (outS go tok W j).1 := by
  induction j with
  | zero => obtain rfl : i = 0 := by omega
            exact List.prefix_rfl
  | succ j ih =>
    by_cases e : i = j + 1
    · subst e; exact List.prefix_rfl
    · exact (ih (by omega)).trans (outS_step go tok W j)
theorem outS_more {i : Nat} (h : i < (outS go tok W i).1.length) : outS go tok W (i + 1) = ((rowS go i (outS go tok W i).1 W).1, (outS go tok W i).2.1 ++ [(rowS go i (outS go tok W i).1 W).2], (outS go tok W i).2.2 ++ [tok ((rowS go i (outS go tok W i).1 W).1.getD i [])]) := by
  show (if _ then _ else _) = _
  rw [if_pos h]
theorem outS_stop {i : Nat} (h : (outS go tok W i).1.length ≤ i) : ∀ d, outS go tok W (i + d) = outS go tok W i
  | 0 => rfl
  | d + 1 => by
    have e := outS_stop h d
    show (if i + d < (outS go tok W (i + d)).1.length then _ else outS go tok W (i + d)) = _
    rw [if_neg (by rw [e]; omega), e]
/-- behind i rounds -/
theorem outS_lens : ∀ i, i ≤ (outS go tok W i).1.length → (outS go tok W i).2.1.length = i ∧ (outS go tok W i).2.2.length = i
  | 0, _ => ⟨rfl, rfl⟩
  | i + 1, h => by
    by_cases hi : i < (outS go tok W i).1.length
    · have ih := outS_lens i (by omega)
      rw [outS_more go tok W hi]
      simp [ih.1, ih.2]
    · have e := outS_stop go tok W (i := i) (by omega) 1
      rw [e] at h
      omega
/-- the end of the loop, for a bound -/
theorem outS_end {i m : Nat} (hi : i ≤ m) (h : (outS go tok W i).1.length ≤ i) : outS go tok W (m + 1) = outS go tok W i := by
  have := outS_stop go tok W h (m + 1 - i)
  rwa [show i + (m + 1 - i) = m + 1 by omega] at this
/-- too many, in the midst of a row -/
theorem outS_over {i m c : Nat} (hi : i ≤ m) (hl : i < (outS go tok W i).1.length) (hc : c ≤ W) (h : m < (rowS go i (outS go tok W i).1 c).1.length) : m < (outS go tok W (m + 1)).1.length := by
  have h1 := (rowS_pre go i (outS go tok W i).1 hc).length_le
  have h2 := (outS_pre go tok W (show i + 1 ≤ m + 1 by omega)).length_le
  rw [outS_more go tok W hl] at h2
  exact Nat.lt_of_lt_of_le h (Nat.le_trans h1 h2)
end
end Go.Proofs.YtnjjbaodfjmiaaaGreat

/- Contracts of Right and Width, the program's and the reference's. -/
namespace Go.Proofs.YtnjjbaodfjmiaaaGreat
open Go.RowKit

/-- from place b on, n places: is each class one of those below nx, or nx itself? -/
def rgt (g : Nat → Nat) : Nat → Nat → Nat → Bool
  | 0, _, _ => true
  | n + 1, b, nx => if g b > nx then false else rgt g n (b + 1) (if g b = nx then nx + 1 else nx)
def rightV (g : Nat → Nat) : Bool := rgt g 256 0 0

set_option maxRecDepth 100000 in
theorem krright_calls (g : Nat → Nat) (w : World) (hg : ∀ j, j < 256 → g j < 256) :
    Calls Tryz.prog 40 #[ar g] w fun e w' => e = .returned (.bool (rightV g)) ∧ Below w.heap.size w w' := by
  have HG := hidden hg
  clear hg
  have hbx := run_box_arr g
  go_enter Tryz.func40, Tryz.ntmps40
  go_wp2
  go_loopw [3, 4] (fun x i wr => ∃ k nx : Nat, k ≤ 256 ∧ nx ≤ k ∧ x = .int .i64 nx ∧ i = .int .i64 k ∧ rightV g = rgt g (256 - k) k nx ∧ ArrAt wr w.heap.size 22 (nV g) ∧ Below w.heap.size w wr) (fun _ i _ => 256 - (Go.RowKit.intOf i).toNat)
  case atStart => exact ⟨0, 0, by omega, by omega, rfl, rfl, rfl, ArrAt.new _ _ _, (Below.refl _ _).alloc (Nat.le_refl _) _⟩
  case round =>
    obtain ⟨k, nx, hk, hnx, rfl, rfl, hf, hA, hb⟩ := hrel
    by_cases hlt : k < 256
    · rw [show 256 - k = (256 - (k + 1)) + 1 by omega, rgt] at hf
      have hc := hA.cell hlt
      unfold nV at hc
      have hgk := HG.out k hlt
      have HA := hidden hA
      clear hA
      by_cases h1 : g k > nx
      · rw [if_pos h1] at hf
        have HF := hidden hf
        clear hf
        go_wp2
        go_ret
        exact ⟨ret_b HF.out.symm, hb⟩
      · rw [if_neg h1] at hf
        by_cases h2 : g k = nx
        · rw [if_pos h2] at hf
          have HF := hidden hf
          clear hf
          go_wp2
          go_roundw
          case rel => exact ⟨k + 1, nx + 1, by omega, by omega, by go_num, by go_num, HF.out, HA.out, hb⟩
          case measure => simp [Go.RowKit.intOf]; omega
        · rw [if_neg h2] at hf
          have HF := hidden hf
          clear hf
          go_wp2
          go_roundw
          case rel => exact ⟨k + 1, nx, by omega, by omega, by go_num, by go_num, HF.out, HA.out, hb⟩
          case measure => simp [Go.RowKit.intOf]; omega
    · obtain rfl : k = 256 := by omega
      have HF := hidden hf
      clear hf
      go_wp2
      go_ret
      exact ⟨ret_b HF.out.symm, hb⟩

set_option maxRecDepth 100000 in
theorem kright_calls (g : Nat → Nat) (w : World) (hg : ∀ j, j < 256 → g j < 256) :
    Calls Tryz.prog 45 #[ar g] w fun e w' => e = .returned (.bool (rightV g)) ∧ Below w.heap.size w w' := by
  have HG := hidden hg
  clear hg
  have hbx := run_box_arr g
  go_enter Tryz.func45, Tryz.ntmps45
  go_wp2
  go_loopw [3, 6] (fun x i wr => ∃ k nx : Nat, k ≤ 256 ∧ nx ≤ k ∧ x = .int .i64 nx ∧ i = .int .i64 k ∧ rightV g = rgt g (256 - k) k nx ∧ ArrAt wr w.heap.size 22 (nV g) ∧ Below w.heap.size w wr) (fun _ i _ => 256 - (Go.RowKit.intOf i).toNat)
  case atStart => exact ⟨0, 0, by omega, by omega, rfl, rfl, rfl, ArrAt.new _ _ _, (Below.refl _ _).alloc (Nat.le_refl _) _⟩
  case round =>
    obtain ⟨k, nx, hk, hnx, rfl, rfl, hf, hA, hb⟩ := hrel
    by_cases hlt : k < 256
    · rw [show 256 - k = (256 - (k + 1)) + 1 by omega, rgt] at hf
      have hc := hA.cell hlt
      unfold nV at hc
      have hgk := HG.out k hlt
      have HA := hidden hA
      clear hA
      by_cases h1 : g k > nx
      · rw [if_pos h1] at hf
        have HF := hidden hf
        clear hf
        go_wp2
        go_ret
        exact ⟨ret_b HF.out.symm, hb⟩
      · rw [if_neg h1] at hf
        by_cases h2 : g k = nx
        · rw [if_pos h2] at hf
          have HF := hidden hf
          clear hf
          go_wp2
          go_roundw
          case rel => exact ⟨k + 1, nx + 1, by omega, by omega, by go_num, by go_num, HF.out, HA.out, hb⟩
          case measure => simp [Go.RowKit.intOf]; omega
        · rw [if_neg h2] at hf
          have HF := hidden hf
          clear hf
          go_wp2
          go_roundw
          case rel => exact ⟨k + 1, nx, by omega, by omega, by go_num, by go_num, HF.out, HA.out, hb⟩
          case measure => simp [Go.RowKit.intOf]; omega
    · obtain rfl : k = 256 := by omega
      have HF := hidden hf
      clear hf
      go_wp2
      go_ret
      exact ⟨ret_b HF.out.symm, hb⟩
end Go.Proofs.YtnjjbaodfjmiaaaGreat

/- Contracts of Width, the program's (by slices.Max) and the reference's. -/
namespace Go.Proofs.YtnjjbaodfjmiaaaGreat
open Go.RowKit

/-- the greatest of the first n, and one; zero of none -/
def wid (g : Nat → Nat) : Nat → Nat
  | 0 => 0
  | n + 1 => max (wid g n) (g n + 1)
theorem wid_le (g : Nat → Nat) (m : Nat) : ∀ n, (∀ j, j < n → g j < m) → wid g n ≤ m
  | 0, _ => Nat.zero_le _
  | n + 1, h => by
    have h1 := wid_le g m n fun j hj => h j (by omega)
    have h2 := h n (by omega)
    show max (wid g n) (g n + 1) ≤ m
    omega
theorem wid_ge (g : Nat → Nat) {j n : Nat} (h : j < n) : g j + 1 ≤ wid g n := by
  induction n with
  | zero => omega
  | succ n ih =>
    show _ ≤ max (wid g n) (g n + 1)
    by_cases e : j = n
    · subst e; omega
    · have := ih (by omega); omega

set_option maxRecDepth 100000 in
theorem rwidth_calls (g : Nat → Nat) (w : World) (hg : ∀ j, j < 256 → g j < 256) :
    Calls Tryz.prog 41 #[ar g] w fun e w' => e = .returned (.int .i64 (wid g 256)) ∧ Below w.heap.size w w' := by
  have HG := hidden hg
  clear hg
  have hbx := run_box_arr g
  go_enter Tryz.func41, Tryz.ntmps41
  go_wp2
  go_loopw [3, 4] (fun x i wr => ∃ k m : Nat, k ≤ 256 ∧ m = wid g k ∧ x = .int .i64 m ∧ i = .int .i64 k ∧ ArrAt wr w.heap.size 22 (nV g) ∧ Below w.heap.size w wr) (fun _ i _ => 256 - (Go.RowKit.intOf i).toNat)
  case atStart => exact ⟨0, 0, by omega, rfl, rfl, rfl, ArrAt.new _ _ _, (Below.refl _ _).alloc (Nat.le_refl _) _⟩
  case round =>
    obtain ⟨k, m, hk, hm, rfl, rfl, hA, hb⟩ := hrel
    have HM := hidden hm
    clear hm
    by_cases hlt : k < 256
    · have hc := hA.cell hlt
      unfold nV at hc
      have hgk := HG.out k hlt
      have HA := hidden hA
      clear hA
      go_wp2
      refine ⟨⟨k + 1, _, by omega, rfl, ?_, by go_num, HA.out, hb⟩, by simp [Go.RowKit.intOf]; omega⟩
      have := HM.out
      show Value.int .i64 _ = .int .i64 ((max (wid g k) (g k + 1) : Nat) : Int)
      congr 1
      split <;> omega
    · obtain rfl : k = 256 := by omega
      go_wp2
      go_ret
      exact ⟨ret_i (by rw [HM.out]), hb⟩

set_option maxRecDepth 100000 in
theorem max_calls (g : Nat → Nat) (B : Nat) (w : World) (hg : ∀ j, j < 256 → g j < 256) (hA : ArrAt w B 22 (nV g)) :
    Calls Tryz.prog 73 #[.slice (some ⟨B, 0, none⟩) 256 256] w fun e w' => ∃ m : Nat, m + 1 = wid g 256 ∧ e = .returned (.int .u8 m) ∧ w' = w := by
  have HG := hidden hg
  have HA := hidden hA
  have c0 := hA.cell (j := 0) (by omega)
  unfold nV at c0
  have h0 := hg 0 (by omega)
  clear hg hA
  go_enter Tryz.func73, Tryz.ntmps73
  go_wp2
  go_loopw [3, 4] (fun x i wr => ∃ k m : Nat, 1 ≤ k ∧ k ≤ 256 ∧ m + 1 = wid g k ∧ m < 256 ∧ x = .int .u8 m ∧ i = .int .i64 k ∧ wr = w) (fun _ i _ => 256 - (Go.RowKit.intOf i).toNat)
  case atStart => exact ⟨1, g 0, by omega, by omega, by show _ = max 0 (g 0 + 1); omega, h0, rfl, rfl, rfl⟩
  case round =>
    obtain ⟨k, m, hk0, hk, hm, hm2, rfl, rfl, rfl⟩ := hrel
    have HM := hidden hm
    clear hm
    by_cases hlt : k < 256
    · have hc := HA.out.cell hlt
      unfold nV at hc
      have hgk := HG.out k hlt
      go_wp2
      refine ⟨⟨k + 1, max m (g k), by omega, by omega, ?_, by omega, ?_, by go_num, trivial⟩, by simp [Go.RowKit.intOf]; omega⟩
      · have := HM.out
        show _ = max (wid g k) (g k + 1)
        omega
      · congr 1
        split <;> omega
    · obtain rfl : k = 256 := by omega
      go_wp2
      go_ret
      exact ⟨m, HM.out, rfl, rfl⟩

set_option maxRecDepth 100000 in
theorem width_calls (g : Nat → Nat) (w : World) (hg : ∀ j, j < 256 → g j < 256) :
    Calls Tryz.prog 46 #[ar g] w fun e w' => e = .returned (.int .i64 (wid g 256)) ∧ Below w.heap.size w w' := by
  have HG := hidden hg
  clear hg
  have hbx := run_box_arr g
  go_enter Tryz.func46, Tryz.ntmps46
  go_wp2_with fail
  refine (max_calls g _ _ HG.out (ArrAt.new _ _ _)).mono ?_
  rintro e w1 ⟨m, hm, rfl, rfl⟩
  have h1 := wid_le g 256 256 HG.out
  have HM := hidden hm
  have hm2 : m < 256 := by omega
  clear hm h1
  go_wp2
  go_ret
  exact ⟨ret_i (by rw [← HM.out]; rfl), (Below.refl _ _).alloc (Nat.le_refl _) _⟩
end Go.Proofs.YtnjjbaodfjmiaaaGreat
