/- Contracts of the unions of a list of sets, and of the reference's Not. -/
import Derived.Test.YtfnpepmbklclfaaDoorSetSpan
namespace Go.Proofs.YtfnpepmbklclfaaDoor
open Go.RowKit

/-- a slice of sets that reads as a list -/
def Sets (w : World) (a : Option Addr) (len : Nat) (fs : List (Nat → Bool)) : Prop :=
  fs.length = len ∧ (0 < len → ∃ b off, a = some ⟨b, off, none⟩ ∧ b < w.heap.size ∧ ∀ i, i < len → ∀ j, j < 4 → w.cell? ⟨b, off + i * 4 + j, none⟩ = some (.int .u64 (word (fs.getD i fNone) j)))
def fAny (fs : List (Nat → Bool)) (n : Nat) : Bool := fs.any fun f => f n
theorem any_snoc (fs : List (Nat → Bool)) (k : Nat) (h : k < fs.length) (n : Nat) : fOr (fAny (fs.take k)) (fs.getD k fNone) n = fAny (fs.take (k + 1)) n := by
  simp only [fOr, fAny]
  rw [List.take_succ_eq_append_getElem h, List.any_append]
  simp [List.getD_eq_getElem?_getD, h]
theorem any_none (fs : List (Nat → Bool)) (n : Nat) : fNone n = fAny (fs.take 0) n := by simp [fNone, fAny]

theorem SetAt.stored4 {w : World} {B : Nat} {f g : Nat → Bool} (h : SetAt w B f) {v0 v1 v2 v3 : Int} (h0 : v0 = word g 0) (h1 : v1 = word g 1) (h2 : v2 = word g 2) (h3 : v3 = word g 3) :
    SetAt ((((w.setCell ⟨B, 0, none⟩ (.int .u64 v0)).setCell ⟨B, 1, none⟩ (.int .u64 v1)).setCell ⟨B, 2, none⟩ (.int .u64 v2)).setCell ⟨B, 3, none⟩ (.int .u64 v3)) B g := by
  subst h0 h1 h2 h3
  exact h.stored

set_option maxRecDepth 100000 in
theorem all_calls (a : Option Addr) (len cap : Nat) (fs : List (Nat → Bool)) (w : World) (hl : len ≤ 9223372036854775807) (hfs : Sets w a len fs) :
    Calls Tryd.prog 13 #[.slice a len cap] w fun e w' => e = .returned (.agg #[.int .u64 (word (fAny fs) 0), .int .u64 (word (fAny fs) 1), .int .u64 (word (fAny fs) 2), .int .u64 (word (fAny fs) 3)]) ∧ Below w.heap.size w w' := by
  obtain ⟨hn, hp⟩ := hfs
  have HN := hidden hn
  have HP := hidden hp
  have HW := hidden (fun f g => word_or f g)
  clear hn hp
  go_enter Tryd.func13, Tryd.ntmps13
  go_wp2
  go_loopw [9] (fun i wr => ∃ k : Nat, k ≤ len ∧ i = .int .i64 k ∧ SetAt wr w.heap.size fNone ∧ SetAt wr (w.heap.size + 1) (fAny (fs.take k)) ∧ Below w.heap.size w wr) (fun i _ => len - (intOf i).toNat)
  case atStart =>
    exact ⟨0, by omega, rfl, (new2 w).1, (new2 w).2.congr fun n _ => any_none fs n, by go_grown⟩
  case round =>
    obtain ⟨k, hk, rfl, hA, hS, hb⟩ := hrel
    have HS := hidden hS
    have HA := hidden hA
    have l1 := hS.lt
    by_cases hlt : k < len
    · obtain ⟨c0, c1, c2, c3, f0, f1, f2, f3⟩ := hS.facts
      obtain ⟨b, off, ea, hbl, hcell⟩ := HP.out (by omega)
      have e0 := (hb.cell (p := ⟨b, off + k * 4 + 0, none⟩) hbl).trans (hcell k hlt 0 (by decide))
      have e1 := (hb.cell (p := ⟨b, off + k * 4 + 1, none⟩) hbl).trans (hcell k hlt 1 (by decide))
      have e2 := (hb.cell (p := ⟨b, off + k * 4 + 2, none⟩) hbl).trans (hcell k hlt 2 (by decide))
      have e3 := (hb.cell (p := ⟨b, off + k * 4 + 3, none⟩) hbl).trans (hcell k hlt 3 (by decide))
      have e0 : wr.cell? ⟨b, off + k * 4, none⟩ = some (.int .u64 (word (fs.getD k fNone) 0)) := e0
      clear hcell
      subst ea
      generalize hg : fs.getD k fNone = g at *
      have HG := hidden hg
      clear hS hA hg
      go_wp2
      refine wp_loop_rounds 5 ?_
      iterate 4
        rw [rounds_succ]
        go_wp2
        go_region
        go_wp2
      rw [rounds_succ]
      go_wp2
      refine ⟨⟨k + 1, by omega, by go_num, ((set_other HA.out (by omega) _ _ _ _).alloc _).drew.drew.drew.drew, (((HS.out.stored4 (HW.out _ _ 0) (HW.out _ _ 1) (HW.out _ _ 2) (HW.out _ _ 3)).congr fun n _ => ?_).alloc _).drew.drew.drew.drew,
        ((below_cells hb _ (by omega) _ _ _ _).alloc (by simp; omega) _).drew.drew.drew.drew⟩, by simp [intOf]; omega⟩
      rw [← HG.out]
      exact any_snoc fs k (by rw [HN.out]; exact hlt) n
    · have e : k = len := by omega
      have HE := hidden e
      obtain ⟨c0, c1, c2, c3, f0, f1, f2, f3⟩ := hS.facts
      obtain ⟨d0, d1, d2, d3, g0, g1, g2, g3⟩ := hA.facts
      clear hS hA e
      go_wp2
      refine ret_setAt Tryd.results13 rfl rfl HA.out.stored (fun n hn => ?_) ⟨rfl, below_cells hb _ (by omega) _ _ _ _⟩
      rw [HE.out, ← HN.out, List.take_length]

set_option maxRecDepth 100000 in
theorem rall_calls (a : Option Addr) (len cap : Nat) (fs : List (Nat → Bool)) (w : World) (hl : len ≤ 9223372036854775807) (hfs : Sets w a len fs) :
    Calls Tryd.prog 14 #[.slice a len cap] w fun e w' => e = .returned (.agg #[.int .u64 (word (fAny fs) 0), .int .u64 (word (fAny fs) 1), .int .u64 (word (fAny fs) 2), .int .u64 (word (fAny fs) 3)]) ∧ Below w.heap.size w w' := by
  obtain ⟨hn, hp⟩ := hfs
  have HN := hidden hn
  have HP := hidden hp
  clear hn hp
  go_enter Tryd.func14, Tryd.ntmps14
  go_wp2
  go_loopw [4] (fun i wr => ∃ k : Nat, k ≤ len ∧ i = .int .i64 k ∧ SetAt wr w.heap.size fNone ∧ SetAt wr (w.heap.size + 1) (fAny (fs.take k)) ∧ Below w.heap.size w wr) (fun i _ => len - (intOf i).toNat)
  case atStart =>
    exact ⟨0, by omega, rfl, (new2 w).1, (new2 w).2.congr fun n _ => any_none fs n, by go_grown⟩
  case round =>
    obtain ⟨k, hk, rfl, hA, hS, hb⟩ := hrel
    have HS := hidden hS
    have HA := hidden hA
    have l1 := hS.lt
    by_cases hlt : k < len
    · obtain ⟨c0, c1, c2, c3, f0, f1, f2, f3⟩ := hS.facts
      obtain ⟨b, off, ea, hbl, hcell⟩ := HP.out (by omega)
      have e0 := (hb.cell (p := ⟨b, off + k * 4 + 0, none⟩) hbl).trans (hcell k hlt 0 (by decide))
      have e1 := (hb.cell (p := ⟨b, off + k * 4 + 1, none⟩) hbl).trans (hcell k hlt 1 (by decide))
      have e2 := (hb.cell (p := ⟨b, off + k * 4 + 2, none⟩) hbl).trans (hcell k hlt 2 (by decide))
      have e3 := (hb.cell (p := ⟨b, off + k * 4 + 3, none⟩) hbl).trans (hcell k hlt 3 (by decide))
      have e0 : wr.cell? ⟨b, off + k * 4, none⟩ = some (.int .u64 (word (fs.getD k fNone) 0)) := e0
      clear hcell
      subst ea
      generalize hg : fs.getD k fNone = g at *
      have HG := hidden hg
      clear hS hA hg
      go_wp2
      go_region_with (first | (go_at_call 16; refine (two_calls 0 (fAny (fs.take k)) g _ (by simp)).mono ?_; rintro e w1 ⟨rfl, hb1⟩; have hS1 := HS.out.drew.below hb1; have HA1 := hidden (HA.out.drew.below hb1); have HB1 := hidden hb1; clear hb1 c0 c1 c2 c3 f0 f1 f2 f3; obtain ⟨c0, c1, c2, c3, f0, f1, f2, f3⟩ := hS1.facts; have HS1 := hidden hS1; clear hS1))
      all_goals
        go_wp2
        refine ⟨⟨k + 1, by omega, by go_num, set_other HA1.out (by omega) _ _ _ _, HS1.out.stored.congr fun n _ => ?_, below_cells (below_then hb.drew (by simp; omega) HB1.out) _ (by omega) _ _ _ _⟩, by simp [intOf]; omega⟩
        rw [← any_snoc fs k (by rw [HN.out]; exact hlt) n, HG.out]
        simp [fTwo, fOr]
    · have e : k = len := by omega
      have HE := hidden e
      obtain ⟨c0, c1, c2, c3, f0, f1, f2, f3⟩ := hS.facts
      obtain ⟨d0, d1, d2, d3, g0, g1, g2, g3⟩ := hA.facts
      clear hS hA e
      go_wp2
      refine ret_setAt Tryd.results14 rfl rfl HA.out.stored (fun n hn => ?_) ⟨rfl, below_cells hb _ (by omega) _ _ _ _⟩
      rw [HE.out, ← HN.out, List.take_length]

theorem rnot_calls (f : Nat → Bool) (w : World) :
    Calls Tryd.prog 19 #[(.agg #[.int .u64 (word (f) 0), .int .u64 (word (f) 1), .int .u64 (word (f) 2), .int .u64 (word (f) 3)])] w fun e w' => e = .returned (.agg #[.int .u64 (word (fNot f) 0), .int .u64 (word (fNot f) 1), .int .u64 (word (fNot f) 2), .int .u64 (word (fNot f) 3)]) ∧ Below w.heap.size w w' := by
  go_enter Tryd.func19, Tryd.ntmps19
  go_wp2
  go_region_with (first
    | (go_at_call 11; refine (rspan_calls 0 255 _).mono ?_; rintro e w1 ⟨rfl, hb1⟩; have hF1 := ((SetAt.new w f).alloc (.cells #[.int .u64 0, .int .u64 0, .int .u64 0, .int .u64 0] 24)).drew.below hb1; have HN1 := hidden ((SetAt.newNone (w.alloc (.cells #[.int .u64 (word (f) 0), .int .u64 (word (f) 1), .int .u64 (word (f) 2), .int .u64 (word (f) 3)] 24)) (w.heap.size + 1) (by simp)).drew.below hb1); have HB1 := hidden hb1; clear hb1; obtain ⟨c0, c1, c2, c3, f0, f1, f2, f3⟩ := hF1.facts; clear hF1)
    | (go_at_call 16; refine (two_calls 2 (fSpan 0 255) f _ (by simp)).mono ?_; rintro e w2 ⟨rfl, hb2⟩; have hN2 := HN1.out.below hb2; have HB2 := hidden hb2; clear hb2; obtain ⟨d0, d1, d2, d3, g0, g1, g2, g3⟩ := hN2.facts; have HN2 := hidden hN2; clear hN2))
  all_goals
    go_wp2
    refine ret_setAt Tryd.results19 rfl rfl HN2.out.stored (fun n hn => ?_) ⟨rfl, below_cells (below_then (below_then (by go_grown) (by simp; omega) HB1.out) (by have := HB1.out.size; simp at this; omega) HB2.out) _ (by omega) _ _ _ _⟩
    simp [fTwo, fSpan, fNot]
    omega
end Go.Proofs.YtfnpepmbklclfaaDoor
