/- Contracts of word.Lines and word.Words. -/
import Derived.Test.YtjkjbibfaekklaaWordParts
import Derived.Test.YtjkjbibfaekklaaWordRow
import Derived.RangeFuncBox
import Derived.Maps.AppendAt
namespace Go.Proofs.Ytjkjbibfaekklaa
open Go.RowKit Go.Shelf
attribute [local go_sem] Oper.semAt_some

def linesV (s : ByteArray) : List ByteArray := (linesGo s.data.toList []).map txt
def wordsV (s : ByteArray) : List ByteArray := (wordsGo s.data.toList []).map txt
def firsts (ps : List Piece) : List ByteArray := ps.map fun x => txt x.1
theorem firsts_more (ps : List Piece) (x : Piece) : firsts (ps ++ [x]) = firsts ps ++ [txt x.1] := by simp [firsts]
theorem firsts_lines (s : ByteArray) : firsts (pieces 10 s.data.toList) = linesV s := by
  unfold firsts linesV
  rw [← pieces_lines, List.map_map]
  rfl
def fulls (ps : List Piece) : List ByteArray := (full ps).map txt
theorem fulls_words (s : ByteArray) : fulls (pieces 32 s.data.toList) = wordsV s := by rw [fulls, pieces_words]; rfl
theorem fulls_hit (ps : List Piece) {x : Piece} (h : x.1 ≠ []) : fulls (ps ++ [x]) = fulls ps ++ [txt x.1] := by simp [fulls, full_hit ps h]
theorem fulls_miss (ps : List Piece) {x : Piece} (h : x.1 = []) : fulls (ps ++ [x]) = fulls ps := by rw [fulls, full_miss ps h]; rfl
theorem fulls_len (ps : List Piece) : (fulls ps).length ≤ ps.length := by
  have := full_len ps
  simpa [fulls] using this
theorem firsts_len (ps : List Piece) : (firsts ps).length = ps.length := by simp [firsts]

/-- behind an append to a boxed variable whose row lies from n₀ on, the box below n₀ -/
theorem _root_.Go.Boxed.appended2 {W w1 : World} {n₀ B a b : Nat} {t e : TypeId} {size : Nat} {v v' : Value} {k m : Nat} {xs ys : List Value} {tmp : Obj}
    (hv : Boxed W B t v) (hte : t ≠ e) (hrow : W.ownsRow n₀ e size v k xs) (hn₀ : n₀ ≤ W.heap.size) (hb : a ≤ B ∧ a ≤ n₀ ∧ b < n₀ ∧ b ≠ B)
    (hown' : w1.ownsRow n₀ e size v' m ys) (hgrow : (W.alloc tmp).grownBy w1 v.ownBlock) :
    Boxed w1 B t v ∧ Boxed (w1.setCell ⟨B, 0, none⟩ v') B t v' ∧ (w1.setCell ⟨B, 0, none⟩ v').ownsRow n₀ e size v' m ys ∧ KeepsOthers W (w1.setCell ⟨B, 0, none⟩ v') ∧ Below a W (w1.setCell ⟨B, 0, none⟩ v') ∧ KeepE b W (w1.setCell ⟨B, 0, none⟩ v') := by
  have hv1 : Boxed w1 B t v := (hv.alloc tmp).kept hgrow (hv.not_row hte hrow)
  have hlow : ∀ j, v.ownBlock = some j → n₀ ≤ j := fun j e => (hrow.lt j e).1
  refine ⟨hv1, hv1.set v', hown'.kept (grownBy_setCell' w1 B v') (.inr (hv1.not_row hte hown').symm), ?_, ?_, ?_⟩
  · refine ((KeepsOthers.alloc W tmp).trans (KeepsOthers.of_grownBy hgrow fun j o ej hj => ?_)).trans (KeepsOthers.setCell _ _ _)
    rcases (hrow.alloc tmp).2 with ⟨rfl, _⟩ | ⟨g, cap, cur, rfl, _, hgb, _⟩
    · simp [Value.ownBlock] at ej
    · obtain rfl : g = j := by simpa [Value.ownBlock] using ej
      rw [hgb] at hj; cases hj; rfl
  · exact (((Below.refl a W).alloc (by omega) tmp).grown hgrow (by simp; omega) fun j ej => by have := hlow j ej; omega).setCell (p := ⟨B, 0, none⟩) hb.1 v'
  · refine ⟨?_, ?_⟩
    · have := hgrow.size
      have h2 := (KeepsWalks.setCell w1 ⟨B, 0, none⟩ v').size
      simp at this
      omega
    · rw [Below.heap_setCell _ _ _ _ hb.2.2.2, hgrow.block b (by simp; omega) (fun e => by have := hlow b e.symm; omega)]
      exact heap_alloc_old _ _ (by omega)

/-- what a call that makes texts hands back -/
def RetT (w : World) (ss : List ByteArray) (e : Ending) (w' : World) : Prop := ∃ v, e = .returned v ∧ Reads w' w.heap.size v ss ∧ Below w.heap.size w w'

set_option maxRecDepth 100000 in
set_option maxHeartbeats 2000000 in
theorem lines_calls (s : ByteArray) (w : World) (hs : s.size ≤ 1000000) :
    Calls Try.prog 17 #[.string s] w (RetT w (linesV s)) := by
  refine (callsIn_wide (n := 5)).1 ?_
  obtain ⟨i0, hi, hz0, hz1, hz2⟩ := info_parts infoStr
  refine callsIn_of_wp_marks Try.func17 rfl trivial ?_ rfl
  simp only [Try.ntmps17, List.size_toArray, List.length_cons, List.length_nil, Nat.reduceAdd, Nat.reduceSub, Array.replicate_succ, Array.replicate_zero, List.push_toArray, List.append_toArray, List.nil_append, List.cons_append]
  gi_wp2_with (refine ⟨trivial, ?_⟩; gi_at_call 24; refine (callsIn_wide.2 (parts_in s _ _)).mono ?_; rintro e w' ⟨rfl, rfl⟩)
  obtain ⟨W0, hW0⟩ : ∃ W0, ((w.alloc (.cells #[.slice none 0 0] 22)).alloc (.cells #[.string s] 9)).alloc (.cells #[.string ⟨#[10]⟩] 9) = W0 := ⟨_, rfl⟩
  have hsz : W0.heap.size = w.heap.size + 1 + 1 + 1 := by rw [← hW0]; simp
  have hBB : Below w.heap.size w W0 := by rw [← hW0]; go_grown
  have bO : Boxed W0 w.heap.size 22 (.slice none 0 0) := by rw [← hW0]; exact ((Boxed.new w _ _).alloc _).alloc _
  have bS : W0.cell? ⟨w.heap.size + 1, 0, none⟩ = some (.string s) := by
    rw [← hW0]
    have := ((Boxed.new (w.alloc (.cells #[.slice none 0 0] 22)) 9 (.string s)).alloc (.cells #[.string ⟨#[10]⟩] 9)).cell
    simpa using this
  have bE : W0.cell? ⟨w.heap.size + 1 + 1, 0, none⟩ = some (.string ⟨#[10]⟩) := by
    rw [← hW0]
    have := (Boxed.new ((w.alloc (.cells #[.slice none 0 0] 22)).alloc (.cells #[.string s] 9)) 9 (.string ⟨#[10]⟩)).cell
    simpa using this
  have hlen := pieces_len 10 s.data.toList
  have hl2 : s.data.toList.length = s.size := by simp
  rw [hW0]
  clear hW0
  refine wpIn_rangeFunc_ownG rfl (by decide) (gf := 25) (lb := #[.pointer (some ⟨w.heap.size + 1, 0, none⟩), .pointer (some ⟨w.heap.size + 1 + 1, 0, none⟩)]) rfl trivial (enters_of Try.func25 (by kernel_rfl) rfl)
    (parts_stops 4 (by decide) (w.heap.size + 1) (w.heap.size + 1 + 1) s 10 (by unfold maxLen; omega) W0 (by omega) (by omega) bS bE) KeepE.trans (KeepE.put (by omega)) (Below.refl _ _) (fun _ => rfl)
    (fun pre W => (∃ v, Boxed W w.heap.size 22 v ∧ W.ownsRow W0.heap.size 9 1 v (firsts pre).length ((firsts pre).map Value.string) ∧ True) ∧ Below w.heap.size w W ∧ W0.heap.size ≤ W.heap.size)
    (fun _ _ _ => False)
    (OwnFrom.and (Own.from (holdsRow_own W0.heap.size w.heap.size 22 9 1 (fun pre => (firsts pre).length) (fun pre => (firsts pre).map Value.string) (fun _ _ => True)) _) (OwnFrom.and (ownFrom_below (Nat.le_refl _) (by omega)) (fun _ _ _ _ h hg _ => Nat.le_trans h hg.size)))
    (fun _ _ _ _ _ hs _ _ => hs)
    ⟨⟨_, bO, World.ownsRow_nil _ _ _ _, trivial⟩, hBB, Nat.le_refl _⟩
    (fun x => { tmps := #[.string s, undef, .slice none 0 0, .pointer (some ⟨w.heap.size, 0, none⟩), .string (txt x.1), .string s, .func (.func 25) #[] #[.pointer (some ⟨w.heap.size + 1, 0, none⟩), .pointer (some ⟨w.heap.size + 1 + 1, 0, none⟩)], .string (txt x.1), .string (txt x.2), undef, undef, undef, undef, undef], defers := [] }) ?assign ?body ?done ?stop
  case assign =>
    intro l x W K hK
    dsimp only [encP]
    gi_wp2
    exact hK
  case body =>
    rintro l pre x W ⟨⟨v, hv, hrow, _⟩, hB, hWs⟩ hlt
    have hc := hv.cell
    have hpl := Nat.le_of_eq (firsts_len pre)
    gi_wp2_with (gi_at_builtin; refine wpListIn_append_own _ rfl _ _ 22 rfl W0.heap.size 9 i0 (.string ⟨#[]⟩) 1 16 Try.underlying22 hi hz0 hz1 hz2 rfl (by decide) _ _ _ rfl (hrow.alloc _) ⟨W.heap.size, 0, none⟩ 1 1 [.string (txt x.1)] rfl rfl (cell_one_new _ _ _) (by simp [Value.oneCell']) (by unfold maxLen; omega) (by omega) (by simp; omega) ?_; intro v' w1 hown' hgrow _; obtain ⟨g', cap', rfl⟩ := ownsRow_succ hown'; obtain ⟨hv1, hv2, hr2, hk2, hb2, he2⟩ := hv.appended2 (b := w.heap.size + 1 + 1) (a := w.heap.size) (by decide) hrow hWs (by omega) hown' hgrow; have hc1 := hv1.cell; have hf1 := hv1.frozen)
    exact ⟨hk2.from _, he2, ⟨_, hv2, by rw [firsts_more]; simpa using hr2, trivial⟩, hB.trans hb2, by have := hb2.size; omega⟩
  case done =>
    rintro D ys W hD rfl ⟨⟨v, hv, hrow, _⟩, hB, _⟩ hK
    have hc := hv.cell
    rw [firsts_lines] at hrow
    gi_wp2
    refine ⟨by simp, .inl ⟨_, _, rfl, run_takeDeferred hK, ?_⟩⟩
    exact ⟨_, results_tmp rfl _ _ _, v, rfl, (RowT.reads (ownsRow_putObj hrow _ hK rfl)).lower (by omega), hB.trans (belowK_b (w := w) (Nat.le_refl _) W D _ _ (by omega) hK rfl rfl)⟩
  case stop =>
    rintro D c pre W _ _ h _
    exact h.elim
set_option maxRecDepth 100000 in
set_option maxHeartbeats 2000000 in
theorem words_calls (s : ByteArray) (w : World) (hs : s.size ≤ 1000000) :
    Calls Try.prog 19 #[.string s] w (RetT w (wordsV s)) := by
  refine (callsIn_wide (n := 5)).1 ?_
  obtain ⟨i0, hi, hz0, hz1, hz2⟩ := info_parts infoStr
  refine callsIn_of_wp_marks Try.func19 rfl trivial ?_ rfl
  simp only [Try.ntmps19, List.size_toArray, List.length_cons, List.length_nil, Nat.reduceAdd, Nat.reduceSub, Array.replicate_succ, Array.replicate_zero, List.push_toArray, List.append_toArray, List.nil_append, List.cons_append]
  gi_wp2_with (refine ⟨trivial, ?_⟩; gi_at_call 24; refine (callsIn_wide.2 (parts_in s _ _)).mono ?_; rintro e w' ⟨rfl, rfl⟩)
  obtain ⟨W0, hW0⟩ : ∃ W0, ((w.alloc (.cells #[.slice none 0 0] 22)).alloc (.cells #[.string s] 9)).alloc (.cells #[.string ⟨#[32]⟩] 9) = W0 := ⟨_, rfl⟩
  have hsz : W0.heap.size = w.heap.size + 1 + 1 + 1 := by rw [← hW0]; simp
  have hBB : Below w.heap.size w W0 := by rw [← hW0]; go_grown
  have bO : Boxed W0 w.heap.size 22 (.slice none 0 0) := by rw [← hW0]; exact ((Boxed.new w _ _).alloc _).alloc _
  have bS : W0.cell? ⟨w.heap.size + 1, 0, none⟩ = some (.string s) := by
    rw [← hW0]
    have := ((Boxed.new (w.alloc (.cells #[.slice none 0 0] 22)) 9 (.string s)).alloc (.cells #[.string ⟨#[32]⟩] 9)).cell
    simpa using this
  have bE : W0.cell? ⟨w.heap.size + 1 + 1, 0, none⟩ = some (.string ⟨#[32]⟩) := by
    rw [← hW0]
    have := (Boxed.new ((w.alloc (.cells #[.slice none 0 0] 22)).alloc (.cells #[.string s] 9)) 9 (.string ⟨#[32]⟩)).cell
    simpa using this
  have hlen := pieces_len 32 s.data.toList
  have hl2 : s.data.toList.length = s.size := by simp
  rw [hW0]
  clear hW0
  refine wpIn_rangeFunc_ownG rfl (by decide) (gf := 25) (lb := #[.pointer (some ⟨w.heap.size + 1, 0, none⟩), .pointer (some ⟨w.heap.size + 1 + 1, 0, none⟩)]) rfl trivial (enters_of Try.func25 (by kernel_rfl) rfl)
    (parts_stops 4 (by decide) (w.heap.size + 1) (w.heap.size + 1 + 1) s 32 (by unfold maxLen; omega) W0 (by omega) (by omega) bS bE) KeepE.trans (KeepE.put (by omega)) (Below.refl _ _) (fun _ => rfl)
    (fun pre W => (∃ v, Boxed W w.heap.size 22 v ∧ W.ownsRow W0.heap.size 9 1 v (fulls pre).length ((fulls pre).map Value.string) ∧ True) ∧ Below w.heap.size w W ∧ W0.heap.size ≤ W.heap.size)
    (fun _ _ _ => False)
    (OwnFrom.and (Own.from (holdsRow_own W0.heap.size w.heap.size 22 9 1 (fun pre => (fulls pre).length) (fun pre => (fulls pre).map Value.string) (fun _ _ => True)) _) (OwnFrom.and (ownFrom_below (Nat.le_refl _) (by omega)) (fun _ _ _ _ h hg _ => Nat.le_trans h hg.size)))
    (fun _ _ _ _ _ hs _ _ => hs)
    ⟨⟨_, bO, World.ownsRow_nil _ _ _ _, trivial⟩, hBB, Nat.le_refl _⟩
    (fun x => { tmps := #[.string s, undef, .slice none 0 0, .pointer (some ⟨w.heap.size, 0, none⟩), .string (txt x.1), .string s, .func (.func 25) #[] #[.pointer (some ⟨w.heap.size + 1, 0, none⟩), .pointer (some ⟨w.heap.size + 1 + 1, 0, none⟩)], .string (txt x.1), .string (txt x.2), undef, undef, undef, undef, undef, undef, undef], defers := [] }) ?assign ?body ?done ?stop
  case assign =>
    intro l x W K hK
    dsimp only [encP]
    gi_wp2
    exact hK
  case body =>
    rintro l pre x W ⟨⟨v, hv, hrow, _⟩, hB, hWs⟩ hlt
    have hc := hv.cell
    have hpl := fulls_len pre
    by_cases hx : (txt x.1).size = 0
    · have he := empty_yes hx
      have he' := list_yes hx
      have hm := hidden (fulls_miss pre (x := x) (data_yes hx))
      clear hx
      gi_wp2
      exact ⟨KeepsFrom.refl _ _, KeepE.refl _ _, ⟨v, hv, by rw [hm.out]; exact hrow, trivial⟩, hB, hWs⟩
    · have he := empty_no hx
      have he' := list_no hx
      have hm := hidden (fulls_hit pre (x := x) (data_no hx))
      clear hx
      gi_wp2_with (gi_at_builtin; refine wpListIn_append_own _ rfl _ _ 22 rfl W0.heap.size 9 i0 (.string ⟨#[]⟩) 1 16 Try.underlying22 hi hz0 hz1 hz2 rfl (by decide) _ _ _ rfl (hrow.alloc _) ⟨W.heap.size, 0, none⟩ 1 1 [.string (txt x.1)] rfl rfl (cell_one_new _ _ _) (by simp [Value.oneCell']) (by unfold maxLen; omega) (by omega) (by simp; omega) ?_; intro v' w1 hown' hgrow _; obtain ⟨g', cap', rfl⟩ := ownsRow_succ hown'; obtain ⟨hv1, hv2, hr2, hk2, hb2, he2⟩ := hv.appended2 (b := w.heap.size + 1 + 1) (a := w.heap.size) (by decide) hrow hWs (by omega) hown' hgrow; have hc1 := hv1.cell; have hf1 := hv1.frozen)
      exact ⟨hk2.from _, he2, ⟨_, hv2, by rw [hm.out]; simpa using hr2, trivial⟩, hB.trans hb2, by have := hb2.size; omega⟩
  case done =>
    rintro D ys W hD rfl ⟨⟨v, hv, hrow, _⟩, hB, _⟩ hK
    have hc := hv.cell
    rw [fulls_words] at hrow
    gi_wp2
    refine ⟨by simp, .inl ⟨_, _, rfl, run_takeDeferred hK, ?_⟩⟩
    exact ⟨_, results_tmp rfl _ _ _, v, rfl, (RowT.reads (ownsRow_putObj hrow _ hK rfl)).lower (by omega), hB.trans (belowK_b (w := w) (Nat.le_refl _) W D _ _ (by omega) hK rfl rfl)⟩
  case stop =>
    rintro D c pre W _ _ h _
    exact h.elim
end Go.Proofs.Ytjkjbibfaekklaa
