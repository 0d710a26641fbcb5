/- Lines, words, first words and pieces of a text, as lists of bytes; names; where a text stands among others. Of no program. -/
import Derived.Lib.Bytealg
import Derived.Test.YtjkjbibfaekklaaBase
namespace Go.Proofs.Ytjkjbibfaekklaa

def txt (l : List UInt8) : ByteArray := ⟨l.toArray⟩
theorem txt_list (s : ByteArray) : txt s.data.toList = s := rfl
theorem list_txt (l : List UInt8) : (txt l).data.toList = l := rfl
theorem txt_size (l : List UInt8) : (txt l).size = l.length := rfl
theorem txt_inj {a b : List UInt8} (h : txt a = txt b) : a = b := by
  have := congrArg (fun s : ByteArray => s.data.toList) h
  simpa [list_txt] using this
theorem txt_add (a b : List UInt8) : txt a ++ txt b = txt (a ++ b) := by
  apply ByteArray.ext
  simp [txt, ByteArray.data_append]
theorem txt_extract (s : ByteArray) (a b : Nat) : s.extract a b = txt ((s.data.toList.take b).drop a) := by
  apply ByteArray.ext
  simp only [txt, ByteArray.data_extract]
  apply Array.ext'
  simp [List.drop_take, List.extract_eq_take_drop]

theorem empty_yes {s : ByteArray} (h : s.size = 0) : s.toList.isEmpty = true := by
  rw [ByteArray.toList_eq, List.isEmpty_iff, ← List.length_eq_zero_iff]
  exact h
theorem empty_no {s : ByteArray} (h : s.size ≠ 0) : s.toList.isEmpty = false := by
  rw [ByteArray.toList_eq, Bool.eq_false_iff]
  intro e
  rw [List.isEmpty_iff, ← List.length_eq_zero_iff] at e
  exact h e
theorem list_yes {s : ByteArray} (h : s.size = 0) : s.toList = [] := List.isEmpty_iff.1 (empty_yes h)
theorem list_no {s : ByteArray} (h : s.size ≠ 0) : ¬ s.toList = [] := fun e => by
  have := empty_no h
  rw [e] at this
  cases this
theorem data_yes {s : ByteArray} (h : s.size = 0) : s.data.toList = [] := by
  rw [← List.length_eq_zero_iff]
  exact h
theorem data_no {s : ByteArray} (h : s.size ≠ 0) : s.data.toList ≠ [] := fun e => by
  rw [← List.length_eq_zero_iff] at e
  exact h e
/-! ### lines and words, byte by byte -/
def linesGo : List UInt8 → List UInt8 → List (List UInt8)
  | [], acc => if acc = [] then [] else [acc]
  | x :: r, acc => if x = 10 then acc :: linesGo r [] else linesGo r (acc ++ [x])
def wordsGo : List UInt8 → List UInt8 → List (List UInt8)
  | [], acc => if acc = [] then [] else [acc]
  | x :: r, acc => if x = 32 then (if acc = [] then wordsGo r [] else acc :: wordsGo r []) else wordsGo r (acc ++ [x])
/-- what stands in l before the first c, and behind it -/
def cutL (c : UInt8) (l : List UInt8) : List UInt8 × List UInt8 := (l.takeWhile (· != c), (l.dropWhile (· != c)).drop 1)
def piecesF : Nat → UInt8 → List UInt8 → List (List UInt8 × List UInt8)
  | 0, _, _ => []
  | n + 1, c, l => if l = [] then [] else cutL c l :: piecesF n c (cutL c l).2
def pieces (c : UInt8) (l : List UInt8) : List (List UInt8 × List UInt8) := piecesF l.length c l
/-- the first word, and what stands behind the blank behind it -/
def cutW (l : List UInt8) : List UInt8 × List UInt8 := cutL 32 (l.dropWhile (· == 32))

theorem cutL_head (c : UInt8) (r : List UInt8) : cutL c (c :: r) = ([], r) := by simp [cutL]
theorem cutL_other {c x : UInt8} (h : x ≠ c) (r : List UInt8) : cutL c (x :: r) = (x :: (cutL c r).1, (cutL c r).2) := by simp [cutL, h]
theorem cutL_none (c : UInt8) : ∀ l, Lib.indexByte l c = -1 → cutL c l = (l, [])
  | [], _ => rfl
  | x :: r, h => by
    have hge := Lib.indexByte_ge r c
    unfold Lib.indexByte at h
    by_cases hx : x = c
    · subst hx
      simp at h
    · rw [if_neg (by simpa using hx)] at h
      by_cases hr : Lib.indexByte r c = -1
      · rw [cutL_other hx, cutL_none c r hr]
      · rw [if_neg (by simpa using hr)] at h
        omega
theorem cutL_some (c : UInt8) : ∀ l (k : Nat), Lib.indexByte l c = k → k < l.length ∧ cutL c l = (l.take k, l.drop (k + 1))
  | [], k, h => by simp [Lib.indexByte] at h
  | x :: r, k, h => by
    have hge := Lib.indexByte_ge r c
    unfold Lib.indexByte at h
    by_cases hx : x = c
    · subst hx
      rw [if_pos (by simp)] at h
      obtain rfl : k = 0 := by omega
      exact ⟨by simp, by rw [cutL_head]; simp⟩
    · rw [if_neg (by simpa using hx)] at h
      by_cases hr : Lib.indexByte r c = -1
      · rw [if_pos (by simpa using hr)] at h
        omega
      · rw [if_neg (by simpa using hr)] at h
        obtain ⟨j, hj⟩ : ∃ j : Nat, Lib.indexByte r c = j := ⟨(Lib.indexByte r c).toNat, by omega⟩
        obtain ⟨h1, h2⟩ := cutL_some c r j hj
        obtain rfl : k = j + 1 := by omega
        exact ⟨by simp; omega, by rw [cutL_other hx, h2]; simp⟩
theorem cutL_snd_le (c : UInt8) : ∀ l, (cutL c l).2.length ≤ l.length - 1
  | [] => by simp [cutL]
  | x :: r => by
    by_cases hx : x = c
    · subst hx
      rw [cutL_head]
      simp
    · rw [cutL_other hx]
      have := cutL_snd_le c r
      simp
      omega
theorem cutL_fst_le (c : UInt8) : ∀ l, (cutL c l).1.length ≤ l.length
  | [] => by simp [cutL]
  | x :: r => by
    by_cases hx : x = c
    · subst hx
      rw [cutL_head]
      simp
    · rw [cutL_other hx]
      have := cutL_fst_le c r
      simp
      omega

/-! ### pieces -/
theorem piecesF_enough (c : UInt8) : ∀ n m l, l.length ≤ n → l.length ≤ m → piecesF n c l = piecesF m c l
  | 0, 0, _, _, _ => rfl
  | 0, m + 1, l, h, _ => by
    obtain rfl : l = [] := by cases l <;> simp_all
    simp [piecesF]
  | n + 1, 0, l, _, h => by
    obtain rfl : l = [] := by cases l <;> simp_all
    simp [piecesF]
  | n + 1, m + 1, l, h1, h2 => by
    unfold piecesF
    split
    · rfl
    · have := cutL_snd_le c l
      rw [piecesF_enough c n m _ (by omega) (by omega)]
theorem pieces_nil (c : UInt8) : pieces c [] = [] := rfl
theorem pieces_cons (c : UInt8) {l : List UInt8} (h : l ≠ []) : pieces c l = cutL c l :: pieces c (cutL c l).2 := by
  have hl : 0 < l.length := List.length_pos_iff.2 h
  obtain ⟨n, hn⟩ : ∃ n, l.length = n + 1 := ⟨l.length - 1, by omega⟩
  have := cutL_snd_le c l
  unfold pieces
  rw [hn, piecesF, if_neg h, piecesF_enough c n _ _ (by omega) (Nat.le_refl _)]
theorem piecesF_len (c : UInt8) : ∀ n l, (piecesF n c l).length ≤ n
  | 0, _ => by simp [piecesF]
  | n + 1, l => by
    unfold piecesF
    split
    · simp
    · have := piecesF_len c n (cutL c l).2
      simp
      exact this
theorem pieces_len (c : UInt8) (l : List UInt8) : (pieces c l).length ≤ l.length := piecesF_len c _ l

theorem lines_cut : ∀ l acc, l ≠ [] → linesGo l acc = (acc ++ (cutL 10 l).1) :: linesGo (cutL 10 l).2 []
  | [], _, h => absurd rfl h
  | x :: r, acc, _ => by
    by_cases hx : x = 10
    · subst hx
      rw [cutL_head, linesGo, if_pos rfl, List.append_nil]
    · rw [cutL_other hx, linesGo, if_neg hx]
      cases r with
      | nil => simp [linesGo, cutL]
      | cons y r => rw [lines_cut (y :: r) _ (by simp)]; simp
theorem words_cut : ∀ l acc, l ≠ [] → wordsGo l acc = if acc ++ (cutL 32 l).1 = [] then wordsGo (cutL 32 l).2 [] else (acc ++ (cutL 32 l).1) :: wordsGo (cutL 32 l).2 []
  | [], _, h => absurd rfl h
  | x :: r, acc, _ => by
    by_cases hx : x = 32
    · subst hx
      rw [cutL_head, wordsGo, if_pos rfl, List.append_nil]
    · rw [cutL_other hx, wordsGo, if_neg hx]
      cases r with
      | nil => simp [wordsGo, cutL]
      | cons y r => rw [words_cut (y :: r) _ (by simp)]; simp
theorem pieces_ind {P : List UInt8 → Prop} (c : UInt8) (h0 : P []) (h1 : ∀ l, l ≠ [] → P (cutL c l).2 → P l) : ∀ l, P l := by
  have : ∀ n l, l.length ≤ n → P l := fun n => by
    induction n with
    | zero =>
      intro l h
      obtain rfl : l = [] := by cases l <;> simp_all
      exact h0
    | succ n ih =>
      intro l h
      by_cases e : l = []
      · subst e; exact h0
      · have := cutL_snd_le c l
        exact h1 l e (ih _ (by omega))
  exact fun l => this _ l (Nat.le_refl _)
/-- the lines are the pieces -/
theorem pieces_lines : ∀ l, (pieces 10 l).map (·.1) = linesGo l [] := pieces_ind 10 rfl fun l h ih => by
  rw [pieces_cons 10 h, lines_cut l [] h, List.map_cons, ih, List.nil_append]
/-- the words are the pieces that are not empty -/
def full (ps : List (List UInt8 × List UInt8)) : List (List UInt8) := (ps.map (·.1)).filter (fun p => !p.isEmpty)
theorem full_hit (ps : List (List UInt8 × List UInt8)) {x : List UInt8 × List UInt8} (h : x.1 ≠ []) : full (ps ++ [x]) = full ps ++ [x.1] := by
  cases hx : x.1 with
  | nil => exact absurd hx h
  | cons a r => simp [full, hx]
theorem full_miss (ps : List (List UInt8 × List UInt8)) {x : List UInt8 × List UInt8} (h : x.1 = []) : full (ps ++ [x]) = full ps := by simp [full, h]
theorem full_len (ps : List (List UInt8 × List UInt8)) : (full ps).length ≤ ps.length := Nat.le_trans (List.length_filter_le _ _) (by simp)
theorem pieces_words : ∀ l, full (pieces 32 l) = wordsGo l [] := pieces_ind 32 rfl fun l h ih => by
  rw [pieces_cons 32 h, words_cut l [] h, ← ih, List.nil_append]
  cases hc : (cutL 32 l).1 <;> simp [full, hc]
/-- the first piece that is not empty -/
theorem cutW_full {l : List UInt8} (h : (cutL 32 l).1 ≠ []) : cutW l = cutL 32 l := by
  cases l with
  | nil => exact absurd rfl h
  | cons x r =>
    by_cases hx : x = 32
    · subst hx
      rw [cutL_head] at h
      exact absurd rfl h
    · simp [cutW, hx]
theorem cutW_empty {l : List UInt8} (h : l ≠ []) (he : (cutL 32 l).1 = []) : cutW l = cutW (cutL 32 l).2 := by
  cases l with
  | nil => exact absurd rfl h
  | cons x r =>
    by_cases hx : x = 32
    · subst hx
      rw [cutL_head]
      simp [cutW]
    · rw [cutL_other hx] at he
      cases he
theorem pieces_first : ∀ l pre x rest, pieces 32 l = pre ++ x :: rest → (∀ y ∈ pre, y.1 = []) → x.1 ≠ [] → cutW l = x := by
  refine pieces_ind 32 (fun pre x rest h => ?_) fun l h ih pre x rest e hp hx => ?_
  · rw [pieces_nil] at h
    simp at h
  · rw [pieces_cons 32 h] at e
    cases pre with
    | nil =>
      rw [List.nil_append, List.cons.injEq] at e
      rw [← e.1] at hx ⊢
      exact cutW_full hx
    | cons y pre =>
      rw [List.cons_append, List.cons.injEq] at e
      have hy := hp y (by simp)
      rw [← e.1] at hy
      rw [cutW_empty h hy]
      exact ih _ _ _ e.2 (fun z hz => hp z (by simp [hz])) hx
theorem pieces_none : ∀ l, (∀ y ∈ pieces 32 l, y.1 = []) → cutW l = ([], []) := by
  refine pieces_ind 32 (fun _ => rfl) fun l h ih hp => ?_
  rw [pieces_cons 32 h] at hp
  rw [cutW_empty h (hp _ (by simp))]
  exact ih fun y hy => hp y (by simp [hy])
/-- the words are the first one and those behind it -/
theorem words_first : ∀ l, wordsGo l [] = if (cutW l).1 = [] then [] else (cutW l).1 :: wordsGo (cutW l).2 [] := pieces_ind 32 rfl fun l h ih => by
  rw [words_cut l [] h, List.nil_append]
  by_cases he : (cutL 32 l).1 = []
  · rw [if_pos he, ih, cutW_empty h he]
  · rw [if_neg he, cutW_full he, if_neg he]
theorem cutW_nil : ∀ l, (cutW l).1 = [] → cutW l = ([], []) := pieces_ind 32 (fun _ => rfl) fun l h ih he => by
  by_cases hc : (cutL 32 l).1 = []
  · rw [cutW_empty h hc] at he ⊢
    exact ih he
  · rw [cutW_full hc] at he
    exact absurd he hc

/-! ### where the first word begins -/
def blanks (l : List UInt8) : Nat := (l.takeWhile (· == 32)).length
theorem blanks_le (l : List UInt8) : blanks l ≤ l.length := (List.takeWhile_sublist _).length_le
theorem drop_blanks : ∀ l : List UInt8, l.dropWhile (· == 32) = l.drop (blanks l)
  | [] => rfl
  | x :: r => by
    by_cases hx : x = 32
    · subst hx
      simp [blanks] at *
      exact drop_blanks r
    · simp [blanks, hx]
theorem blank_before : ∀ (l : List UInt8) (k : Nat), k < blanks l → l[k]? = some 32
  | [], k, h => by simp [blanks] at h
  | x :: r, k, h => by
    by_cases hx : x = 32
    · subst hx
      cases k with
      | zero => rfl
      | succ k =>
        simp
        exact blank_before r k (by simp [blanks] at h ⊢; omega)
    · simp [blanks, hx] at h
theorem blank_not : ∀ l : List UInt8, l[blanks l]? ≠ some 32
  | [] => by simp
  | x :: r => by
    by_cases hx : x = 32
    · subst hx
      have := blank_not r
      simpa [blanks] using this
    · simp [blanks, hx]
theorem take_cut (c : UInt8) : ∀ l : List UInt8, (cutL c l).1 = l.take (cutL c l).1.length ∧ (cutL c l).2 = l.drop ((cutL c l).1.length + 1)
  | [] => by simp [cutL]
  | x :: r => by
    by_cases hx : x = c
    · subst hx
      rw [cutL_head]
      simp
    · rw [cutL_other hx]
      obtain ⟨h1, h2⟩ := take_cut c r
      exact ⟨by simpa using h1, by simpa using h2⟩
theorem cutW_behind (l : List UInt8) : (cutW l).2 = l.drop (blanks l + (cutW l).1.length + 1) := by
  unfold cutW
  rw [drop_blanks, (take_cut 32 _).2, List.drop_drop]
  congr 1
theorem cutW_size (l : List UInt8) : blanks l + (cutW l).1.length ≤ l.length := by
  have := cutL_fst_le 32 (l.dropWhile (· == 32))
  have h2 : (l.dropWhile (· == 32)).length = l.length - blanks l := by rw [drop_blanks]; simp
  have := blanks_le l
  unfold cutW
  omega
theorem cutW_some {l : List UInt8} (h : (cutW l).1 ≠ []) : blanks l < l.length := by
  have := cutW_size l
  have : 0 < (cutW l).1.length := List.length_pos_iff.2 h
  omega

/-! ### what is joined again -/
def feedEnd (l : List UInt8) : List UInt8 := if l.getLast? = none ∨ l.getLast? = some 10 then l else l ++ [10]
theorem feedEnd_feed (a r : List UInt8) : feedEnd (a ++ 10 :: r) = a ++ 10 :: feedEnd r := by
  unfold feedEnd
  rw [List.getLast?_append]
  cases r with
  | nil => simp
  | cons y r =>
    have : (10 :: y :: r).getLast? = (y :: r).getLast? := by simp [List.getLast?_cons]
    rw [this]
    simp only [List.getLast?_cons, Option.some_or, Option.some.injEq, reduceCtorEq, false_or]
    split <;> simp
theorem lines_join : ∀ l acc, 10 ∉ acc → (linesGo l acc).flatMap (· ++ [10]) = feedEnd (acc ++ l)
  | [], acc, h => by
    rw [linesGo, List.append_nil]
    unfold feedEnd
    by_cases e : acc = []
    · subst e; rfl
    · rw [if_neg e, if_neg]
      · simp
      · rintro (h1 | h1)
        · exact e (by simpa using h1)
        · exact h (List.mem_of_getLast? h1)
  | x :: r, acc, h => by
    rw [linesGo]
    by_cases hx : x = 10
    · subst hx
      rw [if_pos rfl, List.flatMap_cons, lines_join r [] (by simp), feedEnd_feed]
      simp
    · rw [if_neg hx, lines_join r _ (by simp [h]; exact fun e => hx e.symm)]
      simp
/-- words with one blank between -/
def joinS (w : List (List UInt8)) : List UInt8 := [32].intercalate w
theorem joinS_snoc : ∀ (w : List (List UInt8)) (x : List UInt8), w ≠ [] → joinS (w ++ [x]) = joinS w ++ [32] ++ x
  | [], _, h => absurd rfl h
  | [a], x, _ => by simp [joinS, List.intercalate]
  | a :: b :: r, x, _ => by
    have := joinS_snoc (b :: r) x (by simp)
    simp [joinS, List.intercalate] at this ⊢
    simp [this]
theorem words_ok : ∀ l acc, 32 ∉ acc → ∀ x ∈ wordsGo l acc, x ≠ [] ∧ 32 ∉ x
  | [], acc, h, x, hx => by
    rw [wordsGo] at hx
    split at hx
    · cases hx
    · rename_i e
      simp at hx
      subst hx
      exact ⟨e, h⟩
  | y :: r, acc, h, x, hx => by
    rw [wordsGo] at hx
    split at hx
    · split at hx
      · exact words_ok r [] (by simp) x hx
      · rename_i e
        rcases List.mem_cons.1 hx with rfl | hx
        · exact ⟨e, h⟩
        · exact words_ok r [] (by simp) x hx
    · rename_i e
      exact words_ok r _ (by simp [h]; exact fun e' => e e'.symm) x hx
theorem words_word : ∀ (x : List UInt8) (acc r : List UInt8), 32 ∉ x → wordsGo (x ++ r) acc = wordsGo r (acc ++ x)
  | [], acc, r, _ => by simp
  | y :: x, acc, r, h => by
    have hy : y ≠ 32 := fun e => h (by simp [e])
    rw [List.cons_append, wordsGo, if_neg hy, words_word x _ r (fun e => h (by simp [e]))]
    simp
theorem words_joined : ∀ w : List (List UInt8), (∀ x ∈ w, x ≠ [] ∧ 32 ∉ x) → wordsGo (joinS w) [] = w
  | [], _ => rfl
  | [a], h => by
    obtain ⟨h1, h2⟩ := h a (by simp)
    have := words_word a [] [] h2
    simp [joinS, List.intercalate]
    rw [List.append_nil] at this
    rw [this, List.nil_append, wordsGo, if_neg h1]
  | a :: b :: r, h => by
    obtain ⟨h1, h2⟩ := h a (by simp)
    have ih := words_joined (b :: r) (fun x hx => h x (by simp [hx]))
    have e : joinS (a :: b :: r) = a ++ 32 :: joinS (b :: r) := by simp [joinS, List.intercalate]
    rw [e, words_word a [] _ h2, List.nil_append, wordsGo, if_pos rfl, if_neg h1, ih]
theorem wordsGo_len : ∀ l acc, (wordsGo l acc).length ≤ l.length + 1
  | [], acc => by rw [wordsGo]; split <;> simp
  | x :: r, acc => by
    rw [wordsGo]
    have h0 := wordsGo_len r []
    have h1 := wordsGo_len r (acc ++ [x])
    split
    · split <;> simp <;> omega
    · simp; omega
theorem linesGo_len : ∀ l acc, (linesGo l acc).length ≤ l.length + 1
  | [], acc => by rw [linesGo]; split <;> simp
  | x :: r, acc => by
    rw [linesGo]
    have h0 := linesGo_len r []
    have h1 := linesGo_len r (acc ++ [x])
    split <;> simp <;> omega
end Go.Proofs.Ytjkjbibfaekklaa
