/- The contract of word.Cut. -/
import Derived.Test.YtjkjbibfaekklaaWordLines
import Derived.Test.YtjkjbibfaekklaaPair
namespace Go.Proofs.Ytjkjbibfaekklaa
open Go.RowKit Go.Shelf
attribute [local go_sem] Oper.semAt_some

def lastP (pre : List Piece) : Piece := pre.getLastD ([], [])
theorem lastP_concat (pre : List Piece) (x : Piece) : lastP (pre ++ [x]) = x := by simp [lastP]
theorem one_own {β : Type} (t : TypeId) (B : Nat) (f : β → Value) : Own (fun s W => OneAt t W B (f s)) := fun s X Y row hs hg hrow => by
  have hs : OneAt t X B (f s) := hs
  refine (hg.block B hs.lt (fun e' => ?_)).trans hs
  obtain ⟨o, ho, hc⟩ := hrow B e'.symm
  unfold OneAt at hs
  rw [hs] at ho
  cases ho
  cases hc
theorem OneAt.put {t : TypeId} {W : World} {B D : Nat} {v : Value} (h : OneAt t W B v) (hne : B ≠ D) (o : Obj) : OneAt t (W.putObj D o) B v :=
  ((grownBy_putObj' W D o).block B h.lt (fun e => by cases e; exact hne rfl)).trans h
/-- the first word of a text, and what stands behind it -/
def cutV (s : ByteArray) : ByteArray × ByteArray := (txt (cutW s.data.toList).1, txt (cutW s.data.toList).2)
def RetC (s : ByteArray) : Ending := .returned (.tuple #[.string (cutV s).1, .string (cutV s).2])
theorem cut_first {s : ByteArray} {pre : List Piece} (hp : pre <+: pieces 32 s.data.toList) (h0 : pre ≠ []) (h1 : ∀ y ∈ pre.dropLast, y.1 = []) (h2 : (lastP pre).1 ≠ []) : cutW s.data.toList = lastP pre := by
  obtain ⟨rest, hr⟩ := hp
  have e : pre = pre.dropLast ++ [lastP pre] := by
    have : lastP pre = pre.getLast h0 := by
      unfold lastP
      rw [List.getLastD_eq_getLast?, List.getLast?_eq_some_getLast h0]
      rfl
    rw [this, List.dropLast_concat_getLast]
  refine pieces_first _ pre.dropLast (lastP pre) rest ?_ h1 h2
  rw [← hr]
  conv => lhs; rw [e]
  simp
theorem cut_results {tmps : Array Value} {W : World} {B C : Nat} {a b : ByteArray} (hp : tmps.getD 2 undef = .pointer (some ⟨B, 0, none⟩)) (hq : tmps.getD 3 undef = .pointer (some ⟨C, 0, none⟩))
    (hP : OneAt 9 W B (.string a)) (hO : OneAt 9 W C (.string b)) : (results Try.f14 tmps).run Try.prog W = .ok (.tuple #[.string a, .string b]) W := by
  rw [results_cells2 Try.results14, hp, hq]
  have hc := hO.cell
  have hd := hP.cell
  simp [go_sem, hc, hd, asAddr, Result.andThen]

set_option maxRecDepth 100000 in
set_option maxHeartbeats 2000000 in
theorem wcut_calls (s : ByteArray) (w : World) (hs : s.size ≤ maxLen) :
    Calls Try.prog 14 #[.string s] w fun e w' => e = RetC s ∧ Below w.heap.size w w' := by
  refine (callsIn_wide (n := 5)).1 ?_
  refine callsIn_of_wp_marks Try.func14 rfl trivial ?_ rfl
  simp only [Try.ntmps14, List.size_toArray, List.length_cons, List.length_nil, Nat.reduceAdd, Nat.reduceSub, Array.replicate_succ, Array.replicate_zero, List.push_toArray, List.append_toArray, List.nil_append, List.cons_append]
  gi_wp2_with (refine ⟨trivial, ?_⟩; gi_at_call 24; refine (callsIn_wide.2 (parts_in s _ _)).mono ?_; rintro e w' ⟨rfl, rfl⟩)
  obtain ⟨W0, hW0⟩ : ∃ W0, (((w.alloc (.cells #[.string ⟨#[]⟩] 9)).alloc (.cells #[.string ⟨#[]⟩] 9)).alloc (.cells #[.string s] 9)).alloc (.cells #[.string ⟨#[32]⟩] 9) = W0 := ⟨_, rfl⟩
  have hsz : W0.heap.size = w.heap.size + 1 + 1 + 1 + 1 := by rw [← hW0]; simp
  have hBB : Below w.heap.size w W0 := by rw [← hW0]; go_grown
  have b2 : OneAt 9 W0 w.heap.size (.string ⟨#[]⟩) := by rw [← hW0]; exact (((OneAt.made rfl).alloc _).alloc _).alloc _
  have b3 : OneAt 9 W0 (w.heap.size + 1) (.string ⟨#[]⟩) := by rw [← hW0]; exact ((OneAt.made (by simp)).alloc _).alloc _
  have bS : OneAt 9 W0 (w.heap.size + 1 + 1) (.string s) := by rw [← hW0]; exact (OneAt.made (by simp)).alloc _
  have bE : OneAt 9 W0 (w.heap.size + 1 + 1 + 1) (.string ⟨#[32]⟩) := by rw [← hW0]; exact OneAt.made (by simp)
  rw [hW0]
  clear hW0
  refine wpIn_rangeFunc_ownG rfl (by decide) (gf := 25) (lb := #[.pointer (some ⟨w.heap.size + 1 + 1, 0, none⟩), .pointer (some ⟨w.heap.size + 1 + 1 + 1, 0, none⟩)]) rfl trivial (enters_of Try.func25 (by kernel_rfl) rfl)
    (parts_stops 4 (by decide) (w.heap.size + 1 + 1) (w.heap.size + 1 + 1 + 1) s 32 hs W0 (by omega) (by omega) bS.cell bE.cell) KeepE.trans (KeepE.put (by omega)) (Below.refl _ _) (fun _ => rfl)
    (fun pre W => (∀ y ∈ pre, y.1 = []) ∧ OneAt 9 W w.heap.size (.string ⟨#[]⟩) ∧ OneAt 9 W (w.heap.size + 1) (.string ⟨#[]⟩) ∧ Below w.heap.size w W)
    (fun c pre W => (c = .ret ∧ pre ≠ [] ∧ (∀ y ∈ pre.dropLast, y.1 = []) ∧ (lastP pre).1 ≠ []) ∧ OneAt 9 W w.heap.size (.string (txt (lastP pre).1)) ∧ OneAt 9 W (w.heap.size + 1) (.string (txt (lastP pre).2)) ∧ Below w.heap.size w W)
    (OwnFrom.and (ownFrom_pure _ _) (OwnFrom.and (Own.from (one_own _ _ _) _) (OwnFrom.and (Own.from (one_own _ _ _) _) (ownFrom_below (Nat.le_refl _) (by omega)))))
    (fun c => OwnFrom.and (ownFrom_pure _ _) (OwnFrom.and (Own.from (one_own _ _ _) _) (OwnFrom.and (Own.from (one_own _ _ _) _) (ownFrom_below (Nat.le_refl _) (by omega)))))
    ⟨by simp, b2, b3, hBB⟩
    (fun x => { tmps := #[.string s, undef, .pointer (some ⟨w.heap.size, 0, none⟩), .pointer (some ⟨w.heap.size + 1, 0, none⟩), .string (txt x.1), .string (txt x.2), .string s, .func (.func 25) #[] #[.pointer (some ⟨w.heap.size + 1 + 1, 0, none⟩), .pointer (some ⟨w.heap.size + 1 + 1 + 1, 0, none⟩)], .string (txt x.1), .string (txt x.2), undef, undef, undef, undef], defers := [] }) ?assign ?body ?done ?stop
  case assign =>
    intro l x W K hK
    dsimp only [encP]
    gi_wp2
    exact hK
  case body =>
    rintro l pre x W ⟨hp, c2, c3, hB⟩ hlt
    have r2 := c2.cell
    have r3 := c3.cell
    have f2 := c2.frozen
    have f3 := c3.frozen
    have HP := hidden hp
    clear hp
    by_cases hx : (txt x.1).size = 0
    · have he := empty_yes hx
      have he' := list_yes hx
      have hm := hidden (data_yes hx)
      clear hx
      gi_wp2
      refine ⟨KeepsFrom.refl _ _, KeepE.refl _ _, fun y hy => ?_, c2, c3, hB⟩
      rcases List.mem_append.1 hy with h | h
      · exact HP.out y h
      · rw [List.mem_singleton.1 h]
        exact hm.out
    · have he := empty_no hx
      have he' := list_no hx
      have hm := hidden (data_no hx)
      clear hx
      gi_wp2
      refine ⟨((KeepsOthers.setCell _ _ _).trans (KeepsOthers.setCell _ _ _)).from _, ⟨rfl, by simp, by simpa using HP.out, by rw [lastP_concat]; exact hm.out⟩, ?_, ?_, ?_⟩
      · rw [lastP_concat]
        exact (c2.stored _).other (by omega) _
      · rw [lastP_concat]
        exact (c3.other (by omega) _).stored _
      · exact (hB.setCell (by simp) _).setCell (by simp) _
  case done =>
    rintro D ys W hD rfl ⟨hp, c2, c3, hB⟩ hK
    have hV := hidden (pieces_none _ hp)
    have r2 := c2.cell
    have r3 := c3.cell
    have f2 := c2.frozen
    have f3 := c3.frozen
    clear hp b2 b3 bS bE
    gi_wp2
    have hK' := ((KeepsOthers.setCell W ⟨w.heap.size, 0, none⟩ (.string ⟨#[]⟩)).trans (KeepsOthers.setCell _ ⟨w.heap.size + 1, 0, none⟩ (.string ⟨#[]⟩))).same D _ hK rfl
    refine ⟨by simp, .inl ⟨_, _, rfl, run_takeDeferred hK', ?_⟩⟩
    have hP := ((c2.stored (.string ⟨#[]⟩)).other (b := w.heap.size + 1) (i := 0) (by omega) (.string ⟨#[]⟩)).put (D := D) (by omega) (.deferred none)
    have hQ := ((c3.other (b := w.heap.size) (i := 0) (by omega) (.string ⟨#[]⟩)).stored (.string ⟨#[]⟩)).put (D := D) (by omega) (.deferred none)
    refine ⟨_, cut_results rfl rfl hP hQ, by unfold RetC cutV; rw [hV.out]; rfl, ?_⟩
    exact ((hB.setCell (by simp) _).setCell (by simp) _).trans (belowK_b (w := w) (Nat.le_refl _) _ D _ _ (by omega) hK' rfl rfl)
  case stop =>
    rintro D c pre W hD hpre ⟨⟨rfl, hne, h1, h2⟩, c2, c3, hB⟩ hK
    have hV := hidden (cut_first hpre hne h1 h2)
    clear hpre hne h1 h2 b2 b3 bS bE
    gi_wp2
    refine ⟨by simp, .inl ⟨_, _, rfl, run_takeDeferred hK, ?_⟩⟩
    have hP := c2.put (D := D) (by omega) (.deferred none)
    have hQ := c3.put (D := D) (by omega) (.deferred none)
    refine ⟨_, cut_results rfl rfl hP hQ, by unfold RetC cutV; rw [hV.out], ?_⟩
    exact hB.trans (belowK_b (w := w) (Nat.le_refl _) _ D _ _ (by omega) hK rfl rfl)
end Go.Proofs.Ytjkjbibfaekklaa
