/- The contract of word.Twice. -/
import Derived.Test.YtjkjbibfaekklaaWordFind
import Derived.Maps.OwnSet
namespace Go.Proofs.Ytjkjbibfaekklaa
open Go.RowKit Go.Maps

theorem strKeyed : Keyed Try.prog 9 := string_keyed Try.underlying9
theorem zeroUnit (w : World) : (zeroValue 35).run Try.prog w = .ok (.agg #[]) w := by kernel_rfl
def keyT (s : ByteArray) : Lit := .string s.data.toList
def setT (ss : List ByteArray) : DataW Unit := setOf (.agg []) (ss.map keyT)
theorem same_yes (a : ByteArray) : (keyT a).sameKey (keyT a) = true := WideAt.sameKey_self trivial
theorem same_no {a b : ByteArray} (h : (keyT a).sameKey (keyT b) = true) : a = b := by
  have := WideAt.sameKey_eq h
  simp only [keyT, Lit.string.injEq] at this
  exact Go.WideShapes.bytes_inj this
theorem has_any (ss : List ByteArray) (x : ByteArray) : Maps.has (setT ss) (keyT x) = ss.any (fun y => (keyT y).sameKey (keyT x)) := by
  unfold setT
  rw [has_setOf _ _ _ (fun y hy => by obtain ⟨_, _, rfl⟩ := List.mem_map.1 hy; trivial), List.any_map]
  rfl
theorem has_yes {ss : List ByteArray} {x : ByteArray} (h : x ∈ ss) : Maps.has (setT ss) (keyT x) = true := by
  rw [has_any, List.any_eq_true]
  exact ⟨x, h, same_yes x⟩
theorem has_no {ss : List ByteArray} {x : ByteArray} (h : ¬ x ∈ ss) : Maps.has (setT ss) (keyT x) = false := by
  rw [has_any, List.any_eq_false]
  intro y hy e
  exact h (by rw [← same_no e]; exact hy)
theorem setT_snoc (ss : List ByteArray) (x : ByteArray) : setT (ss ++ [x]) = (setT ss).put (keyT x) (.agg []) := by
  unfold setT
  rw [List.map_append, List.map_singleton, setOf_snoc]

theorem findFrom_mem (s : ByteArray) : ∀ (l : List ByteArray) (k n : Nat), k ≤ n → n < k + l.length → (findFrom s l k < n ∧ 0 ≤ findFrom s l k ↔ s ∈ l.take (n - k))
  | [], k, n, h, h2 => by simp at h2; omega
  | x :: r, k, n, h, h2 => by
    rw [findFrom]
    by_cases hx : x = s
    · subst hx
      rw [if_pos rfl]
      by_cases e : n = k
      · subst e
        simp
      · rw [show n - k = (n - (k + 1)) + 1 by omega, List.take_succ_cons]
        simp
        omega
    · rw [if_neg hx]
      by_cases e : n = k
      · subst e
        rcases findFrom_ge s r (n + 1) with g | g
        · simp [g]
        · simp
          omega
      · rw [show n - k = (n - (k + 1)) + 1 by omega, List.take_succ_cons, findFrom_mem s r (k + 1) n (by omega) (by simp at h2; omega), List.mem_cons]
        exact ⟨fun h => .inr h, fun h => h.resolve_left (fun e => hx e.symm)⟩
theorem twice_mem {ss : List ByteArray} {k : Nat} (hk : k < ss.length) : findV ss (ss.getD k ByteArray.empty) < k ↔ ss.getD k ByteArray.empty ∈ ss.take k := by
  have h := findFrom_mem (ss.getD k ByteArray.empty) ss 0 k (by omega) (by omega)
  have e : ss.getD k ByteArray.empty = ss[k] := by rw [List.getD_eq_getElem?_getD, List.getElem?_eq_getElem hk]; rfl
  have g : 0 ≤ findFrom (ss.getD k ByteArray.empty) ss 0 := by
    have := findFrom_ge (ss.getD k ByteArray.empty) ss 0
    have hn : findFrom (ss.getD k ByteArray.empty) ss 0 ≠ -1 := by
      have key : ∀ (l : List ByteArray) (x : ByteArray) (j : Nat), x ∈ l → findFrom x l j ≠ -1 := by
        intro l x
        induction l with
        | nil => intro j h; cases h
        | cons y r ih =>
          intro j h
          rw [findFrom]
          split
          · omega
          · rename_i hy
            exact ih (j + 1) ((List.mem_cons.1 h).resolve_left (fun e => hy e.symm))
      exact key _ _ _ (by rw [e]; exact List.getElem_mem hk)
    omega
  rw [Nat.sub_zero] at h
  exact ⟨fun h1 => h.1 ⟨h1, g⟩, fun h1 => (h.2 h1).1⟩

set_option maxHeartbeats 1000000 in
set_option maxRecDepth 100000 in
theorem twice_texts (a : Option Addr) (len cap : Nat) (ss : List ByteArray) (w : World) (hl : len ≤ cap) (hcap : cap ≤ maxLen) (hz : ∀ s ∈ ss, s.size ≤ maxLen) (hS : Strs (fun b => b < w.heap.size) w a len ss) :
    Calls Try.prog 10 #[.slice a len cap] w fun e w' => e = .returned (.int .i64 (twiceV ss)) ∧ Below w.heap.size w w' := by
  unfold maxLen at hcap
  have HS := hidden hS
  have HZ := hidden hz
  clear hS hz
  have hmm := @run_makeMap Try.prog
  go_enter Try.func10, Try.ntmps10
  go_wp2
  go_loopw [11] (fun i wr => ∃ k : Nat, k ≤ len ∧ i = .int .i64 k ∧ twiceV ss = twiceFrom ss (len - k) k ∧ wr.ownsMap Try.prog 9 unitElem w.heap.size k (setT (ss.take k)) ∧ Below w.heap.size w wr ∧ w.heap.size + 1 ≤ wr.heap.size) (fun i _ => len - (intOf i).toNat)
  case atStart => exact ⟨0, by omega, rfl, by rw [twiceV, HS.out.1]; rfl, World.ownsMap_made _ _ _ _, (Below.refl _ _).alloc (Nat.le_refl _) _, by simp⟩
  case round =>
    obtain ⟨k, hk, rfl, hf, hown, hnx, hws⟩ := hrel
    by_cases hlt : k < len
    · rw [show len - k = (len - (k + 1)) + 1 by omega, twiceFrom] at hf
      have hlt' : k < ss.length := by rw [HS.out.1]; exact hlt
      obtain ⟨b, off, rfl, hb, hc⟩ := HS.out.2 (by omega)
      have hck : wr.cell? ⟨b, off + k, none⟩ = some (.string (ss.getD k ByteArray.empty)) := (hnx.cell (p := ⟨b, off + k, none⟩) hb).trans (hc k hlt)
      have hm : (ss.getD k ByteArray.empty).size ≤ maxLen := by
        have e : ss.getD k ByteArray.empty = ss[k] := by rw [List.getD_eq_getElem?_getD, List.getElem?_eq_getElem hlt']; rfl
        rw [e]
        exact HZ.out _ (List.getElem_mem hlt')
      have hkey : keyOf Try.prog 9 (.string (ss.getD k ByteArray.empty)) = some (keyT (ss.getD k ByteArray.empty)) := Go.WideMaps.keyOf_string_mk Try.underlying9 hm
      have HB := hidden hnx
      have HN := hidden (setT_snoc (ss.take k) (ss.getD k ByteArray.empty))
      have HT := hidden (take_more ss k hlt')
      clear hc hm hnx
      by_cases he : findV ss (ss.getD k ByteArray.empty) < k
      · rw [if_pos he] at hf
        have hhas : Maps.has (setT (ss.take k)) (keyT (ss.getD k ByteArray.empty)) = true := has_yes ((twice_mem hlt').1 he)
        have HF := hidden hf
        clear hf he
        generalize ss.getD k ByteArray.empty = x at hck hkey hhas
        go_wp2_with (at_lookup; refine wpList_lookup_own_unit _ rfl _ _ 34 rfl 9 35 strKeyed Try.underlying34 (zeroUnit _) w.heap.size k _ rfl hown _ _ rfl hkey ?_)
        go_ret
        exact ⟨ret_i HF.out.symm, HB.out.alloc HB.out.size _⟩
      · rw [if_neg he] at hf
        have hhas : Maps.has (setT (ss.take k)) (keyT (ss.getD k ByteArray.empty)) = false := has_no (fun h => he ((twice_mem hlt').2 h))
        have HF := hidden hf
        clear hf he
        generalize ss.getD k ByteArray.empty = x at hck hkey hhas HN HT
        go_wp2_with (first
          | (at_lookup; refine wpList_lookup_own_unit _ rfl _ _ 34 rfl 9 35 strKeyed Try.underlying34 (zeroUnit _) w.heap.size k _ rfl hown _ _ rfl hkey ?_)
          | (at_mapUpdate; refine wpList_mapUpdate_own _ rfl _ _ _ 34 rfl 9 35 strKeyed Try.underlying34 (unitElem (H := Unit)) w.heap.size k _ rfl (hown.alloc _) (by unfold maxLen; omega) _ _ _ rfl rfl hkey _ [] unitElem_mk ?_; intro w1 hown1 hgrow1))
        have s1 := hgrow1.size
        simp at s1
        go_roundw
        case rel =>
          refine ⟨k + 1, by omega, by go_num, HF.out, by rw [HT.out, HN.out]; exact hown1, ?_, by omega⟩
          exact (HB.out.alloc HB.out.size _).grown hgrow1 (by simp; omega) (fun j hj => by cases hj; exact Nat.le_refl _)
        case measure => simp [intOf]; omega
    · obtain rfl : k = len := by omega
      rw [Nat.sub_self, twiceFrom] at hf
      have H2 := hidden hf
      clear hf
      go_wp2
      go_ret
      exact ⟨ret_i H2.out.symm, hnx⟩
end Go.Proofs.Ytjkjbibfaekklaa
