/- Contracts of Union, Common, Less and Within (over merge), of their closures, of Has, Of and Same. -/
import Derived.Test.YtbnohmbdfcapkaaDoorMaMerge
import Derived.RangeFuncBox
import Derived.Sort.OwnSortedInts
namespace Go.Proofs.YtbnohmbdfcapkaaDoor
open Go.RowKit Go.Lib Go.Joins

theorem pass_calls (x : Int) (w : World) : Calls Tryd.prog 21 #[.int .i64 x] w fun e w' => e = .returned (.tuple #[]) ∧ w = w' := by
  go_enter Tryd.func21, Tryd.ntmps21
  go_wp2
  refine bodyPost_end (results_none rfl _ _ _) rfl ?_
  exact ⟨rfl, rfl⟩
theorem own_neZ {w : World} {base b : Nat} {e t : TypeId} {k n : Nat} {v : Value} {xs : List Value} {cs : Array Value} {fr : Nat × Nat} (h : w.ownsRow base e k v n xs) (hb : w.heap[b]? = some (.cells cs t fr)) (hne : t ≠ e) : v.ownBlock ≠ some b := fun hc => by
  rcases h.2 with ⟨rfl, _⟩ | ⟨g, cap, cur, rfl, _, hg, _⟩
  · cases hc
  · simp only [Value.ownBlock, Option.some.injEq] at hc
    subst hc
    rw [hb] at hg
    simp only [Option.some.injEq, Obj.cells.injEq] at hg
    exact hne hg.2.1
/-- what the closures keep: the list so far behind the box, what was there -/
def SetJ (w0 : World) (p : Nat → Bool) (D : List (Nat × Int)) (w : World) : Prop := (∃ v, Boxed w w0.heap.size 22 v ∧ RowZ w (w0.heap.size + 1) v (pickV p D)) ∧ Below w0.heap.size w0 w ∧ w0.heap.size + 1 ≤ w.heap.size
theorem SetJ.below {w0 w w' : World} {p : Nat → Bool} {D : List (Nat × Int)} (h : SetJ w0 p D w) (hb : Below w.heap.size w w') : SetJ w0 p D w' := by
  obtain ⟨⟨v, h1, h2⟩, h3, h4⟩ := h
  exact ⟨⟨v, (hb.block _ h1.lt).trans h1, h2.kept hb⟩, below_then h3 h3.size hb, Nat.le_trans h4 hb.size⟩
theorem SetJ.start (w : World) (p : Nat → Bool) : SetJ w p [] (w.alloc (.cells #[.slice none 0 0] 22)) :=
  ⟨⟨_, Boxed.new w _ _, RowZ.nil _ _⟩, (Below.refl w.heap.size w).alloc (Nat.le_refl _) _, by simp⟩
theorem SetJ.past {w0 w : World} {p : Nat → Bool} {D : List (Nat × Int)} (h : SetJ w0 p D w) (k : Nat) (x : Int) (hk : p k = false) : SetJ w0 p (D ++ [(k, x)]) w := by
  have e : pickV p (D ++ [(k, x)]) = pickV p D := by rw [pick_append]; simp [pickV, hk]
  unfold SetJ at *
  rw [e]
  exact h
theorem pick_one (p : Nat → Bool) (k : Nat) (x : Int) (D : List (Nat × Int)) (hk : p k = true) : pickV p (D ++ [(k, x)]) = pickV p D ++ [x] := by rw [pick_append]; simp [pickV, hk]
set_option maxRecDepth 100000 in
theorem les_step {w0 w : World} {p : Nat → Bool} {D : List (Nat × Int)} {k : Nat} {x : Int} (h : SetJ w0 p D w) (hk : p k = true) (hsz : D.length ≤ 100000) :
    Calls Tryd.prog 19 #[.int .i64 x, .pointer (some ⟨w0.heap.size, 0, none⟩)] w fun e w' => e = .returned (.tuple #[]) ∧ SetJ w0 p (D ++ [(k, x)]) w' ∧ Keep w w' := by
  obtain ⟨⟨v, hv, hr⟩, hb0, hs0⟩ := h
  have HPK := hidden (pick_one p k x D hk)
  have hlen := pick_len p D
  obtain ⟨B, hB⟩ : ∃ B, B = w0.heap.size := ⟨_, rfl⟩
  rw [← hB] at hv hr hs0 ⊢
  have HBB := hidden hB
  have hc := hv.cell
  have hf := hv.frozen
  have hvl := hv.lt
  obtain ⟨av, cv, rfl⟩ := hr.form
  have HR := hidden (hr.kept ((Below.refl w.heap.size w).alloc (Nat.le_refl _) (.cells #[.int .i64 x] 3)))
  have HV := hidden (hv.alloc (.cells #[.int .i64 x] 3))
  have HV0 := hidden hv
  have HR0 := hidden hr
  have HB0 := hidden hb0
  have HB := hidden (show B + 1 ≤ (w.alloc (.cells #[.int .i64 x] 3)).heap.size by simp; omega)
  obtain ⟨m, hm⟩ : ∃ m, m = (pickV p D).length := ⟨_, rfl⟩
  have HM := hidden hm.symm
  rw [← hm] at HR HR0 HV HV0 hc
  have hm2 : m ≤ 100000 := by omega
  clear hr hv hB hb0 hlen hm hk
  go_enter Tryd.func19, Tryd.ntmps19
  go_wp2_with (at_builtin; refine app_z rfl _ _ rfl rfl HR.out rfl (heap_alloc_new w _) HM.out hm2 HB.out ?_; intro g' c' w1 hr1 hg1 hb1; have hv1 := HV.out.kept hg1 (HV.out.not_row (by decide) HR.out); have hc1 := hv1.cell; have hf1 := hv1.frozen)
  go_end0
  have hbb := HBB.out
  refine ⟨rfl, ⟨⟨.slice (some ⟨g', 0, none⟩) (m + 1) c', by rw [← hbb]; exact hv1.set _, ?_⟩, ?_, ?_⟩, ?_, ?_⟩
  · rw [HPK.out, ← HBB.out]
    exact World.ownsRow.kept hr1 (grownBy_setCell' w1 B _) (.inr (hv1.not_row (by decide) hr1).symm)
  · rw [← HBB.out]
    have h0 := HB0.out
    rw [← HBB.out] at h0
    exact ((h0.alloc (by omega) _).trans (hb1.mono (by omega))).setCell (p := ⟨B, 0, none⟩) (Nat.le_refl _) _
  · rw [← HBB.out]
    have := hg1.size
    simp [World.setCell] at this ⊢
    omega
  · have := hg1.size
    simp [World.setCell] at this ⊢
    omega
  · intro j cs fr hj
    have hj' : j < w.heap.size := (Array.getElem?_eq_some_iff.1 hj).1
    have n1 : j ≠ B := fun e => by
      have h2 := HV0.out
      unfold Boxed at h2
      rw [← e, hj] at h2
      simp only [Option.some.injEq, Obj.cells.injEq] at h2
      exact absurd h2.2.1 (by decide)
    have n2 : (Value.slice av m cv).ownBlock ≠ some j := own_neZ HR0.out hj (by decide)
    exact ((heap_setCell_other _ _ _ _ n1).trans (hg1.block j (by simp; omega) n2.symm)).trans (heap_alloc_old w _ hj')
theorem SetJ.frame {w0 w : World} {p : Nat → Bool} {D : List (Nat × Int)} (h : SetJ w0 p D w) : Below w0.heap.size w0 w := h.2.1
/-- what stood before a first step stands over a later one -/
theorem below_back {B : Nat} {w0 w1 w2 : World} (h : Below B w0 w1) (h2 : Below B w0 w2) (hs : w1.heap.size ≤ w2.heap.size) : Below B w1 w2 :=
  ⟨h2.os.trans h.os.symm, h2.tape.trans h.tape.symm, h2.output.trans h.output.symm, hs, fun k hk => (h2.block k hk).trans (h.block k hk).symm⟩
set_option maxHeartbeats 4000000 in
set_option maxRecDepth 100000 in
theorem les_calls (w : World) (va vb : Value) (xs ys : List Int) (ha : RdZ w.heap.size w va xs) (hb : RdZ w.heap.size w vb ys) (hl : xs.length + ys.length ≤ 100000) :
    Calls Tryd.prog 12 #[va, vb] w (RetZ w (pickV (fun k => k == 0) (evs xs ys))) := by
  have hal := (Below.refl w.heap.size w).alloc (Nat.le_refl _) (.cells #[.slice none 0 0] 22)
  have HM := hidden (merge_calls (w := w.alloc (.cells #[.slice none 0 0] 22)) (f1 := 19) (f2 := 21) (f3 := 21) (c1 := #[.pointer (some ⟨w.heap.size, 0, none⟩)]) (c2 := #[]) (c3 := #[]) (SetJ w (fun k => k == 0)) (ha.below hal (Nat.le_refl _)) (hb.below hal (Nat.le_refl _)) (by simp)
    (enters_of Tryd.func19 (by kernel_rfl) rfl) (enters_of Tryd.func21 (by kernel_rfl) rfl) (enters_of Tryd.func21 (by kernel_rfl) rfl)
    (SetJ.start w _) (fun D w1 w2 h hb => h.below hb) (fun D w1 h => below_back hal (SetJ.frame h) (by simpa using h.2.2))
    (fun D w1 x h hD => les_step h rfl (by omega))
    (fun D w1 x h _ => (pass_calls x w1).mono fun e w2 ⟨he, hw⟩ => ⟨he, hw ▸ h.past 1 x rfl, hw ▸ Keep.refl _⟩)
    (fun D w1 x h _ => (pass_calls x w1).mono fun e w2 ⟨he, hw⟩ => ⟨he, hw ▸ h.past 2 x rfl, hw ▸ Keep.refl _⟩))
  obtain ⟨a, ca, rfl⟩ := ha.form
  obtain ⟨b, cb, rfl⟩ := hb.form
  generalize evs xs ys = E at *
  clear ha hb hal
  go_enter Tryd.func12, Tryd.ntmps12
  go_wp2_with fail
  refine HM.out.mono ?_
  rintro e w1 ⟨rfl, ⟨⟨v, hv, hr⟩, hb1, hs⟩⟩
  have hc := hv.cell
  obtain ⟨av, cv, rfl⟩ := hr.form
  have HR := hidden (hr.lower (Nat.le_succ _))
  have HB := hidden hb1
  clear hv hr hb1 hs
  go_wp2
  go_ret
  exact ⟨_, rfl, HR.out, HB.out⟩
end Go.Proofs.YtbnohmbdfcapkaaDoor
