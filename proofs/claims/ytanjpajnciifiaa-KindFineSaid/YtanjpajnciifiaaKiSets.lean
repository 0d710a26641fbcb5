/- A slice of sets as it came in: its key; the reference's alike. -/
import Derived.Test.YtanjpajnciifiaaKiMath
import Derived.Test.YtanjpajnciifiaaSetTwo
import Derived.Test.YtanjpajnciifiaaLater
namespace Go.Proofs.Ytanjpajnciifiaa
open Go.RowKit

/-- a slice of sets that reads as a list -/
def Sets (w : World) (a : Option Addr) (len : Nat) (fs : List (Nat → Bool)) : Prop :=
  fs.length = len ∧ (0 < len → ∃ b off, a = some ⟨b, off, none⟩ ∧ b < w.heap.size ∧ ∀ i, i < len → ∀ j, j < 4 → w.cell? ⟨b, off + i * 4 + j, none⟩ = some (.int .u64 (word (fs.getD i fNone) j)))
theorem Sets.below {a : Option Addr} {n : Nat} {fs : List (Nat → Bool)} {w w' : World} (h : Sets w a n fs) (hb : Below w.heap.size w w') : Sets w' a n fs := by
  refine ⟨h.1, fun hp => ?_⟩
  obtain ⟨b, off, e, hlt, hc⟩ := h.2 hp
  exact ⟨b, off, e, Nat.lt_of_lt_of_le hlt hb.size, fun i hi j hj => (hb.cell (p := ⟨b, _, none⟩) hlt).trans (hc i hi j hj)⟩
theorem Sets.at' {a : Option Addr} {n : Nat} {fs : List (Nat → Bool)} {w : World} (h : Sets w a n fs) {i : Nat} (hi : i < n) :
    ∃ b off, a = some ⟨b, off, none⟩ ∧ b < w.heap.size ∧ w.cell? ⟨b, off + i * 4, none⟩ = some (.int .u64 (word (fs.getD i fNone) 0)) ∧ w.cell? ⟨b, off + i * 4 + 1, none⟩ = some (.int .u64 (word (fs.getD i fNone) 1)) ∧
      w.cell? ⟨b, off + i * 4 + 2, none⟩ = some (.int .u64 (word (fs.getD i fNone) 2)) ∧ w.cell? ⟨b, off + i * 4 + 3, none⟩ = some (.int .u64 (word (fs.getD i fNone) 3)) := by
  obtain ⟨b, off, e, hlt, hc⟩ := h.2 (by omega)
  exact ⟨b, off, e, hlt, hc i hi 0 (by decide), hc i hi 1 (by decide), hc i hi 2 (by decide), hc i hi 3 (by decide)⟩

/-- which of the sets have it -/
def keyL (fs : List (Nat → Bool)) (b : Nat) : List Bool := fs.map fun f => f b
theorem keyL_eq {fs : List (Nat → Bool)} {a b : Nat} : keyL fs a = keyL fs b ↔ ∀ i, i < fs.length → fs.getD i fNone a = fs.getD i fNone b := by
  unfold keyL
  constructor
  · intro h i hi
    have := congrArg (fun l => l.getD i false) h
    simpa [List.getD_eq_getElem?_getD, hi] using this
  · intro h
    apply List.ext_getElem
    · simp
    · intro i h1 h2
      have := h i (by simpa using h1)
      have hi : i < fs.length := by simpa using h1
      simpa [List.getD_eq_getElem?_getD, hi] using this
theorem keyL_snoc {fs : List (Nat → Bool)} {i : Nat} (hi : i < fs.length) (b : Nat) : keyL (fs.take (i + 1)) b = keyL (fs.take i) b ++ [fs.getD i fNone b] := by
  unfold keyL
  rw [List.take_succ_eq_append_getElem hi, List.map_append]
  congr 1
  simp [List.getD_eq_getElem?_getD, hi]
theorem keyL_pair {fs : List (Nat → Bool)} {i : Nat} (hi : i < fs.length) (a b : Nat) : keyL (fs.take (i + 1)) a = keyL (fs.take (i + 1)) b ↔ (keyL (fs.take i) a = keyL (fs.take i) b ∧ fs.getD i fNone a = fs.getD i fNone b) := by
  rw [keyL_snoc hi, keyL_snoc hi]
  constructor
  · intro h
    have := List.append_inj h (by simp [keyL])
    exact ⟨this.1, by simpa using this.2⟩
  · rintro ⟨h1, h2⟩
    rw [h1, h2]

set_option maxHeartbeats 1000000 in
set_option maxRecDepth 100000 in
theorem alike_calls (a : Option Addr) (len cap : Nat) (fs : List (Nat → Bool)) (x y : Nat) (w : World) (hl : len ≤ 9223372036854775807) (hx : x < 256) (hy : y < 256) (hS : Sets w a len fs) :
    Calls Try.prog 22 #[.slice a len cap, .int .i64 x, .int .i64 y] w fun e w' => e = .returned (.bool (decide (keyL fs x = keyL fs y))) ∧ Below w.heap.size w w' := by
  have HS := hidden hS
  have HN := hidden hS.1
  clear hS
  go_enter Try.func22, Try.ntmps22
  go_wp2
  go_loopw [7] (fun i wr => ∃ k : Nat, k ≤ len ∧ i = .int .i64 k ∧ (∀ i, i < k → fs.getD i fNone x = fs.getD i fNone y) ∧ Below w.heap.size w wr) (fun i _ => len - (intOf i).toNat)
  case atStart => exact ⟨0, by omega, rfl, fun i h => by omega, Below.refl _ _⟩
  case round =>
    obtain ⟨k, hk, rfl, hf, hb⟩ := hrel
    have HF := hidden hf
    have HB := hidden hb
    have hz := hb.size
    clear hf hb
    by_cases hlt : k < len
    · obtain ⟨b, off, rfl, hbl, e0, e1, e2, e3⟩ := (HS.out.below HB.out).at' hlt
      have d0 := fun (p : Later wr) => Later.cell e0 hbl p
      have d1 := fun (p : Later wr) => Later.cell e1 hbl p
      have d2 := fun (p : Later wr) => Later.cell e2 hbl p
      have d3 := fun (p : Later wr) => Later.cell e3 hbl p
      have wx : IntKind.u8.wrap (x : Int) = x := by rw [IntKind.wrap_u8]; omega
      have wy : IntKind.u8.wrap (y : Int) = y := by rw [IntKind.wrap_u8]; omega
      clear e0 e1 e2 e3
      obtain ⟨g, hg⟩ : ∃ g, g = fs.getD k fNone := ⟨_, rfl⟩
      rw [← hg] at d0 d1 d2 d3
      have HG := hidden hg
      clear hg
      cases hq : (g x != g y)
      · have hq1 : (g x == g y) = true := by simpa using hq
        go_wp2
        refine wp_region_later (by kernel_rfl) (by kernel_rfl) ?_
        repeat (go_big_quiet_step ((go_at_call 18; first | (with_reducible exact Later.calls (rhas_nat g x _ hx)) | (with_reducible exact Later.calls (rhas_nat g y _ hy)))))
        refine wpQuiet_nil ?_
        rintro _ ⟨⟨_, hb5⟩, rfl⟩
        rename_i w5
        have HB5 := hidden (below_then HB.out hz hb5)
        have HQ := hidden hq1
        clear hb5 d0 d1 d2 d3 hq hq1
        go_wp2
        go_roundw
        case rel => exact ⟨k + 1, by omega, by go_num, fun i hi => by
            by_cases e : i = k
            · subst e
              rw [← HG.out]
              simpa using HQ.out
            · exact HF.out i (by omega), HB5.out⟩
        case measure => simp [intOf]; omega
      · have hq1 : (g x == g y) = false := by simpa using hq
        go_wp2
        refine wp_region_later (by kernel_rfl) (by kernel_rfl) ?_
        repeat (go_big_quiet_step ((go_at_call 18; first | (with_reducible exact Later.calls (rhas_nat g x _ hx)) | (with_reducible exact Later.calls (rhas_nat g y _ hy)))))
        refine wpQuiet_nil ?_
        rintro _ ⟨⟨_, hb5⟩, rfl⟩
        rename_i w5
        have HB5 := hidden (below_then HB.out hz hb5)
        have HQ := hidden hq1
        clear hb5 d0 d1 d2 d3 hq hq1
        go_wp2
        go_ret
        refine ⟨ret_b ?_, HB5.out⟩
        symm
        rw [decide_eq_false_iff_not, keyL_eq]
        intro h
        have h2 := h k (by rw [HN.out]; exact hlt)
        rw [← HG.out] at h2
        have h3 := HQ.out
        rw [h2] at h3
        simp at h3
    · obtain rfl : k = len := by omega
      go_wp2
      go_ret
      refine ⟨ret_b ?_, HB.out⟩
      symm
      rw [decide_eq_true_iff, keyL_eq]
      intro i hi
      exact HF.out i (by rw [HN.out] at hi; exact hi)
end Go.Proofs.Ytanjpajnciifiaa
