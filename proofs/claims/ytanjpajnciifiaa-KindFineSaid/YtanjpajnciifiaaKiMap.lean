/- The map of the program's Split: keyed by an old class and whether a set has it; what it holds behind b rounds. -/
import Derived.Test.YtanjpajnciifiaaKiMath
import Derived.Maps.OwnSet
import Derived.DeepKeys4
namespace Go.Proofs.Ytanjpajnciifiaa
open Go.RowKit Go.Maps

theorem widePart : (match Try.prog.underlying 45 with | some (.array _ _) | some (.struct _) => true | _ => false) = true := by rw [Try.underlying45]
theorem rowPart : (45 : TypeId) < Try.prog.types.size := of_decide_eq_true (by kernel_rfl)
theorem keyedPart : Keyed Try.prog 45 := Keyed.of_law (deep_law_laid laidOut (m := 2) (by omega) rowPart (by kernel_rfl) widePart)
theorem zeroInt (w : World) : (zeroValue 3).run Try.prog w = .ok (.int .i64 0) w := by kernel_rfl
/-- a key, as it is read -/
def kl (p : Nat × Bool) : Lit := .string (keyBytes [.int .u8 (p.1 : Int), .bool p.2])
theorem keyOf_part (p : Nat × Bool) (h : p.1 < 256) : keyOf Try.prog 45 (.agg #[.int .u8 (p.1 : Int), .bool p.2]) = some (kl p) := by
  have hw : (Lit.int .u8 (p.1 : Int)).wf = true := by simp [Lit.wf, IntKind.min, IntKind.max, IntKind.signed, IntKind.bits]; omega
  have hk : Try.prog.keyType 45 = true := by kernel_rfl
  have hc : Try.prog.cellsOf 45 = 2 := by kernel_rfl
  have c5 : Try.prog.cellsOf 5 = 1 := by kernel_rfl
  have c4 : Try.prog.cellsOf 4 = 1 := by kernel_rfl
  obtain ⟨m, hm⟩ : ∃ m, Try.prog.types.size = m + 1 := ⟨Try.prog.types.size - 1, by have := rowPart; have h2 : (0 : Nat) ≤ 45 := Nat.zero_le _; exact (Nat.succ_pred_eq_of_pos (Nat.lt_of_le_of_lt h2 this)).symm⟩
  unfold keyOf kl
  simp only [Try.underlying45]
  rw [if_pos (by simp [hk, Value.formed, Try.underlying45, hc]), hm]
  unfold Program.keyLits
  simp only [Try.underlying45, Value.cells]
  rw [if_pos (by simp [hc])]
  simp [Program.keyLits, c5, c4, hw, Try.underlying5, Try.underlying4]
theorem kl_inj {p q : Nat × Bool} (hp : p.1 < 256) (hq : q.1 < 256) (h : kl p = kl q) : p = q := by
  have := keyedPart.inj (keyOf_part p hp) (h ▸ keyOf_part q hq)
  simp at this
  exact Prod.ext (by omega) this.2
theorem kl_key (p : Nat × Bool) : WideAt.IsKeyLit (kl p) := trivial

/-- the map behind b rounds -/
structure MapK (D : DataW Unit) (k : Nat → Nat × Bool) (b : Nat) : Prop where
  has : ∀ p : Nat × Bool, p.1 < 256 → (Maps.has D (kl p) = true ↔ ∃ j, j < b ∧ k j = p)
  look : ∀ j, j < b → D.atKey (kl (k j)) (.lit (.int .i64 0)) = .lit (.int .i64 (clsK k j))
  size : Maps.size D = cntK k b
theorem MapK.start (k : Nat → Nat × Bool) : MapK (.map []) k 0 :=
  ⟨fun p _ => ⟨fun h => by simp [Maps.has_eq] at h, fun ⟨j, h, _⟩ => by omega⟩, fun j h => by omega, rfl⟩
theorem MapK.known {D : DataW Unit} {k : Nat → Nat × Bool} {b : Nat} (h : MapK D k b) (hk : (k b).1 < 256) (hf : fstK k b < b) : Maps.has D (kl (k b)) = true ∧ D.atKey (kl (k b)) (.lit (.int .i64 0)) = .lit (.int .i64 (clsK k b)) := by
  refine ⟨(h.has _ hk).2 ⟨_, hf, fst_key k b⟩, ?_⟩
  have := h.look _ hf
  rwa [fst_key k, cls_first] at this
theorem MapK.unknown {D : DataW Unit} {k : Nat → Nat × Bool} {b : Nat} (h : MapK D k b) (hk : (k b).1 < 256) (hf : fstK k b = b) : Maps.has D (kl (k b)) = false := by
  rw [Bool.eq_false_iff]
  intro e
  obtain ⟨j, hj, hj2⟩ := (h.has _ hk).1 e
  exact fst_min k (by rw [hf]; exact hj) hj2
theorem MapK.old {D : DataW Unit} {k : Nat → Nat × Bool} {b : Nat} (h : MapK D k b) (hf : fstK k b < b) : MapK D k (b + 1) :=
  ⟨fun p hp => (h.has p hp).trans ⟨fun ⟨j, h1, h2⟩ => ⟨j, by omega, h2⟩, fun ⟨j, h1, h2⟩ => by
      by_cases e : j = b
      · subst e; exact ⟨_, hf, (fst_key k j).trans h2⟩
      · exact ⟨j, by omega, h2⟩⟩,
    fun j hj => by
      by_cases e : j = b
      · subst e
        have := h.look _ hf
        rwa [fst_key k, cls_first] at this
      · exact h.look j (by omega),
    h.size.trans (cnt_old k (by omega)).symm⟩
theorem MapK.fresh {D : DataW Unit} {k : Nat → Nat × Bool} {b : Nat} (h : MapK D k b) (ht : Maps.Tidy D) (hk : ∀ j, j ≤ b → (k j).1 < 256) (hf : fstK k b = b) : MapK (D.put (kl (k b)) (.lit (.int .i64 (cntK k b)))) k (b + 1) := by
  have hu := h.unknown (hk b (Nat.le_refl _)) hf
  refine ⟨fun p hp => ?_, fun j hj => ?_, ?_⟩
  · by_cases e : p = k b
    · subst e
      rw [Maps.has_put_same ht.isMap (kl_key _)]
      exact ⟨fun _ => ⟨b, by omega, rfl⟩, fun _ => rfl⟩
    · rw [Maps.has_put_other (fun h2 => e (kl_inj hp (hk b (Nat.le_refl _)) h2))]
      refine (h.has p hp).trans ⟨fun ⟨j, h1, h2⟩ => ⟨j, by omega, h2⟩, fun ⟨j, h1, h2⟩ => ?_⟩
      by_cases e2 : j = b
      · subst e2; exact absurd h2.symm e
      · exact ⟨j, by omega, h2⟩
  · by_cases e : j = b
    · subst e
      rw [Maps.atKey_put_same ht.isMap (kl_key _), cls_new k hf]
    · have hne : k j ≠ k b := fst_min k (by rw [hf]; omega)
      rw [Maps.atKey_put_other (fun h2 => hne (kl_inj (hk j (by omega)) (hk b (Nat.le_refl _)) h2))]
      exact h.look j (by omega)
  · rw [Maps.size_put ht, hu, cnt_new k hf, h.size]
    rfl
end Go.Proofs.Ytanjpajnciifiaa
