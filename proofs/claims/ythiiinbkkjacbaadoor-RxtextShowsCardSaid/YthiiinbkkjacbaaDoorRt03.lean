/- SetTwo, SetSpan, SetAll, SetFirst, put together. -/
import Derived.Test.YthiiinbkkjacbaaDoorRt02
import Derived.Deep.RegionHeld3
/- Contracts of the reference's functions on two sets, on a list of sets, and of its Not. -/
namespace Go.Proofs.YthiiinbkkjacbaaDoor
open Go.RowKit

theorem rone_calls (k : Nat) (w : World) (h : k < 256) :
    Calls Tryd.prog 27 #[.int .u8 k] w fun e w' => e = .returned (.agg #[.int .u64 (word (fOne k) 0), .int .u64 (word (fOne k) 1), .int .u64 (word (fOne k) 2), .int .u64 (word (fOne k) 3)]) ∧ Below w.heap.size w w' := by
  have hw := fun w => with_nat fNone k w h
  simp only [word_none] at hw
  have HW := hidden hw
  clear hw
  go_enter Tryd.func27, Tryd.ntmps27
  go_wp2_with fail
  refine (HW.out _).mono ?_
  rintro e w' ⟨rfl, hb1⟩
  have hS := (SetAt.new w fNone).below (by
    rw [zeros_none] at hb1
    exact hb1)
  obtain ⟨c0, c1, c2, c3, f0, f1, f2, f3⟩ := hS.facts
  have HS := hidden hS
  have HB := hidden (below_then ((Below.refl w.heap.size w).alloc (Nat.le_refl _) _) (by simp) hb1)
  clear hS hb1
  go_wp2
  exact ret_setAt Tryd.results27 rfl rfl HS.out.stored (fun n _ => by simp [fOr, fNone]) ⟨rfl, below_cells HB.out _ (by omega) _ _ _ _⟩

theorem rhas_nat (f : Nat → Bool) (k : Nat) (w : World) (h1 : k < 256) :
    Calls Tryd.prog 46 #[(.agg #[.int .u64 (word (f) 0), .int .u64 (word (f) 1), .int .u64 (word (f) 2), .int .u64 (word (f) 3)]), .int .u8 k] w fun e w' => e = .returned (.bool (f k)) ∧ Below w.heap.size w w' := by
  have := rhas_calls f k w (by omega) (by omega)
  rwa [Int.toNat_natCast] at this

/-- which bytes two sets have -/
def fTwo (how : Int) (f g : Nat → Bool) (n : Nat) : Bool := (how == 0 && (f n || g n)) || (how == 1 && (f n && g n)) || (how == 2 && (f n && !g n))

theorem bcell {W w1 : World} (hb : Below W.heap.size W w1) : (∀ b o, b < W.heap.size → w1.cell? ⟨b, o, none⟩ = W.cell? ⟨b, o, none⟩) ∧ (∀ b o, b < W.heap.size → w1.frozen? ⟨b, o, none⟩ = W.frozen? ⟨b, o, none⟩) :=
  ⟨fun b o h => hb.cell (p := ⟨b, o, none⟩) h, fun b o h => hb.frozen (p := ⟨b, o, none⟩) h⟩

theorem up_step {f : Nat → Bool} {k : Nat} (h : f k = true) (n : Nat) : fOr (fUpto f k) (fOne k) n = fUpto f (k + 1) n := by
  simp only [fOr, fUpto, fOne]
  by_cases e : n = k
  · subst e; simp [h]
  · rw [Bool.eq_iff_iff]; simp [e]; omega
theorem up_skip {f : Nat → Bool} {k : Nat} (h : f k = false) (n : Nat) : fUpto f k n = fUpto f (k + 1) n := by
  simp only [fUpto]
  by_cases e : n = k
  · subst e; simp [h]
  · rw [Bool.eq_iff_iff]; simp; omega

theorem SetAt.alloc {w : World} {B : Nat} {f : Nat → Bool} (h : SetAt w B f) (o : Obj) : SetAt (w.alloc o) B f := (heap_alloc_old w o h.lt).trans h
theorem SetAt.newAt (w : World) (f : Nat → Bool) (B : Nat) (hB : w.heap.size = B) : SetAt (w.alloc (.cells #[.int .u64 (word (f) 0), .int .u64 (word (f) 1), .int .u64 (word (f) 2), .int .u64 (word (f) 3)] 25)) B f := by
  subst hB
  exact SetAt.new w f
theorem SetAt.newNone (w : World) (B : Nat) (hB : w.heap.size = B) : SetAt (w.alloc (.cells #[.int .u64 0, .int .u64 0, .int .u64 0, .int .u64 0] 25)) B fNone := by
  rw [zeros_none]
  exact SetAt.newAt w fNone B hB

set_option maxRecDepth 100000 in
theorem two_calls (how : Int) (f g : Nat → Bool) (w : World) (hH : how = 0 ∨ how = 1 ∨ how = 2) :
    Calls Tryd.prog 50 #[.int .i64 how, (.agg #[.int .u64 (word (f) 0), .int .u64 (word (f) 1), .int .u64 (word (f) 2), .int .u64 (word (f) 3)]), (.agg #[.int .u64 (word (g) 0), .int .u64 (word (g) 1), .int .u64 (word (g) 2), .int .u64 (word (g) 3)])] w fun e w' => e = .returned (.agg #[.int .u64 (word (fTwo how f g) 0), .int .u64 (word (fTwo how f g) 1), .int .u64 (word (fTwo how f g) 2), .int .u64 (word (fTwo how f g) 3)]) ∧ Below w.heap.size w w' := by
  have HH := hidden hH
  clear hH
  go_enter Tryd.func50, Tryd.ntmps50
  go_wp2
  go_loopw [8] (fun i wr => ∃ k : Nat, k ≤ 256 ∧ i = .int .i64 k ∧ SetAt wr w.heap.size f ∧ SetAt wr (w.heap.size + 1) g ∧ SetAt wr (w.heap.size + 1 + 1) fNone ∧ SetAt wr (w.heap.size + 1 + 1 + 1) (fUpto (fTwo how f g) k) ∧ Below w.heap.size w wr) (fun i _ => 256 - (intOf i).toNat)
  case atStart =>
    exact ⟨0, by omega, rfl, (((SetAt.new w f).alloc _).alloc _).alloc _, ((SetAt.newAt _ g _ (by simp)).alloc _).alloc _, (SetAt.newNone _ _ (by simp)).alloc _, (SetAt.newNone _ _ (by simp)).congr fun n _ => (upto_none _ n).symm, by go_grown⟩
  case round =>
    obtain ⟨k, hk, rfl, hF, hG, hA, hS, hb⟩ := hrel
    have HS := hidden hS
    have HA := hidden hA
    have HF := hidden hF
    have HG := hidden hG
    have l1 := hS.lt
    by_cases hlt : k < 256
    · obtain ⟨c0, c1, c2, c3, _, _, _, _⟩ := hF.facts
      obtain ⟨d0, d1, d2, d3, _, _, _, _⟩ := hG.facts
      clear hS hA hF hG
      have hwr : IntKind.u8.wrap (k : Int) = k := by rw [IntKind.wrap_u8]; omega
      go_wp2_with fail
      go_region_held3 (fun w' => w'.cell? ⟨w.heap.size, 0, none⟩ = some (.int .u64 (word f 0)) ∧ w'.cell? ⟨w.heap.size, 1, none⟩ = some (.int .u64 (word f 1)) ∧ w'.cell? ⟨w.heap.size, 2, none⟩ = some (.int .u64 (word f 2)) ∧ w'.cell? ⟨w.heap.size, 3, none⟩ = some (.int .u64 (word f 3)) ∧
        w'.cell? ⟨w.heap.size + 1, 0, none⟩ = some (.int .u64 (word g 0)) ∧ w'.cell? ⟨w.heap.size + 1, 1, none⟩ = some (.int .u64 (word g 1)) ∧ w'.cell? ⟨w.heap.size + 1, 2, none⟩ = some (.int .u64 (word g 2)) ∧ w'.cell? ⟨w.heap.size + 1, 3, none⟩ = some (.int .u64 (word g 3)) ∧ Below wr.heap.size wr w')
        (first | (go_keep; done) | ((try dsimp only); (try go_split_ands); refine ⟨?_, ?_, ?_, ?_, ?_, ?_, ?_, ?_, ?_⟩ <;> (first | assumption | (exact (Below.refl _ _).drew) | (exact below_after ((Below.refl _ _).drew) hb1) | (exact below_after (by assumption) hb1) | ((rw [hb1.cell (by simp; omega)]; (first | assumption | (simp; assumption)))))))
        ((go_at_call 46; refine (rhas_nat _ k _ hlt).mono ?_; rintro e w1 ⟨rfl, hb1⟩; have hz1 := hb1.size; (try simp at hz1)))
      go_split_ands
      have hB : Below wr.heap.size wr w1 := by assumption
      have hS' := HS.out.below hB
      have hA' := HA.out.below hB
      have hF' := HF.out.below hB
      have hG' := HG.out.below hB
      have hb' := hidden (below_then hb (by omega) hB)
      obtain ⟨p0, p1, p2, p3, q0, q1, q2, q3⟩ := hS'.facts
      have HS' := hidden hS'
      have HA' := hidden hA'
      have HF' := hidden hF'
      have HG' := hidden hG'
      clear hB hS' hA' hF' hG' HS HA HF HG hb c0 c1 c2 c3 d0 d1 d2 d3
      have hH := HH.out
      clear HH
      rcases hH with e | e | e
      all_goals subst e
      all_goals cases hf : f k <;> cases hg : g k
      all_goals go_wp2_with fail
      all_goals first
        | exact ⟨⟨k + 1, by omega, by go_num, HF'.out, HG'.out, HA'.out, HS'.out.congr fun n _ => up_skip (by simp [fTwo, hf, hg]) n, hb'.out⟩, by simp [intOf]; omega⟩
        | ((with_reducible refine (with_nat _ k _ (by omega)).mono ?_)
           rintro e w2 ⟨rfl, hb2⟩
           have hS2 := HS'.out.below hb2
           have hA2 := HA'.out.below hb2
           have hF2 := HF'.out.below hb2
           have hG2 := HG'.out.below hb2
           have l2 := hb'.out.size
           have HB2 := hidden (below_then hb'.out (by omega) hb2)
           clear p0 p1 p2 p3 q0 q1 q2 q3
           obtain ⟨p0, p1, p2, p3, q0, q1, q2, q3⟩ := hS2.facts
           have HS2 := hidden hS2
           have HA2 := hidden hA2
           have HF2 := hidden hF2
           have HG2 := hidden hG2
           clear hS2 hA2 hF2 hG2 hb2 HS' HA' HF' HG'
           go_wp2
           go_roundw
           case rel =>
             exact ⟨k + 1, by omega, by go_num, set_other HF2.out (by omega) _ _ _ _, set_other HG2.out (by omega) _ _ _ _, set_other HA2.out (by omega) _ _ _ _, HS2.out.stored.congr fun n _ => up_step (by simp [fTwo, hf, hg]) n,
               below_cells HB2.out _ (by omega) _ _ _ _⟩
           case measure => simp [intOf]; omega)
    · have e : k = 256 := by omega
      have HE := hidden e
      obtain ⟨c0, c1, c2, c3, f0, f1, f2, f3⟩ := hS.facts
      obtain ⟨d0, d1, d2, d3, g0, g1, g2, g3⟩ := hA.facts
      clear hS hA hF hG e
      go_wp2
      refine ret_setAt Tryd.results50 rfl rfl HA.out.stored (fun n hn => ?_) ⟨rfl, below_cells hb _ (by omega) _ _ _ _⟩
      rw [HE.out, upto_all _ n hn]
end Go.Proofs.YthiiinbkkjacbaaDoor

/- Contract of the program's Span. -/
namespace Go.Proofs.YthiiinbkkjacbaaDoor
open Go.RowKit

theorem SetAt.one {w : World} {B : Nat} {f g : Nat → Bool} (h : SetAt w B f) (i : Nat) (hi : i < 4) {v : Int} (hv : v = word g i) (hj : ∀ j, j ≠ i → word f j = word g j) :
    SetAt (w.setCell ⟨B, i, none⟩ (.int .u64 v)) B g := by
  subst hv
  have h2 := heap_setCell_same w B i _ 25 (.int .u64 (word g i)) h
  unfold SetAt
  rw [h2]
  match i, hi with
  | 0, _ => simp [hj 1 (by decide), hj 2 (by decide), hj 3 (by decide)]
  | 1, _ => simp [hj 0 (by decide), hj 2 (by decide), hj 3 (by decide)]
  | 2, _ => simp [hj 0 (by decide), hj 1 (by decide), hj 3 (by decide)]
  | 3, _ => simp [hj 0 (by decide), hj 1 (by decide), hj 2 (by decide)]
theorem SetAt.other {w : World} {B b i : Nat} {f : Nat → Bool} (h : SetAt w B f) (hne : B ≠ b) (v : Value) : SetAt (w.setCell ⟨b, i, none⟩ v) B f := by
  unfold SetAt at h ⊢
  rw [heap_setCell_other _ _ _ _ hne, h]
theorem SetAt.drew {w : World} {B : Nat} {f : Nat → Bool} (h : SetAt w B f) : SetAt w.drew B f := h
theorem or_one (f : Nat → Bool) (n : Int) (h0 : 0 ≤ n) (i : Nat) (hi : n.toNat / 64 = i) : bits .or .u64 (word f i) (IntKind.u64.wrap (2 ^ (n % 64).toNat)) = word (fOr f (fOne n.toNat)) i := by
  rw [pow_bit n h0 i hi, word_or]
theorem spn_step {L b : Int} (h0 : 0 ≤ L) (hb : L ≤ b) (n : Nat) : fOr (fSpan L (b - 1)) (fOne b.toNat) n = fSpan L (b + 1 - 1) n := by
  simp only [fOr, fSpan, fOne]
  rw [Bool.eq_iff_iff]
  simp
  omega

def lowE (lo : Int) : Int := max lo 0
def highE (hi : Int) : Int := min hi 255
theorem fin_span (lo hi b : Int) (_h1 : lowE lo ≤ b) (h2 : ¬ b ≤ highE hi) (h3 : b ≤ highE hi + 1 ∨ b = lowE lo) (n : Nat) (hn : n < 256) : fSpan (lowE lo) (b - 1) n = fSpan lo hi n := by
  unfold lowE highE at *
  simp only [fSpan]
  rw [Bool.eq_iff_iff]
  simp
  omega
theorem none_span (L : Int) (n : Nat) : fNone n = fSpan L (L - 1) n := by
  simp only [fSpan, fNone]
  rw [Bool.eq_iff_iff]
  simp
  omega

set_option maxRecDepth 100000 in
theorem span_calls (lo hi : Int) (w : World) :
    Calls Tryd.prog 68 #[.int .i64 lo, .int .i64 hi] w fun e w' => e = .returned (.agg #[.int .u64 (word (fSpan lo hi) 0), .int .u64 (word (fSpan lo hi) 1), .int .u64 (word (fSpan lo hi) 2), .int .u64 (word (fSpan lo hi) 3)]) ∧ Below w.heap.size w w' := by
  have l0 : 0 ≤ lowE lo := by unfold lowE; omega
  have h0 : highE hi ≤ 255 := by unfold highE; omega
  have cl : (lo < 0 ∧ lowE lo ≤ 0) ∨ (0 ≤ lo ∧ lo ≤ lowE lo ∧ lowE lo ≤ lo) := by unfold lowE; omega
  have ch : (255 < hi ∧ 255 ≤ highE hi) ∨ (hi ≤ 255 ∧ hi ≤ highE hi ∧ highE hi ≤ hi) := by unfold highE; omega
  have HF := hidden (fin_span lo hi)
  rcases cl with ⟨p1, p2⟩ | ⟨p1, p2, p3⟩ <;> rcases ch with ⟨q1, q2⟩ | ⟨q1, q2, q3⟩
  all_goals
    go_enter Tryd.func68, Tryd.ntmps68
    go_wp2
    go_loopw [6] (fun i wr => ∃ b : Int, lowE lo ≤ b ∧ (b ≤ highE hi + 1 ∨ b = lowE lo) ∧ i = .int .i64 b ∧ SetAt wr w.heap.size fNone ∧ SetAt wr (w.heap.size + 1) (fSpan (lowE lo) (b - 1)) ∧ Below w.heap.size w wr) (fun i _ => (256 - intOf i).toNat)
    case atStart =>
      exact ⟨_, by omega, by omega, rfl, (new2 w).1, (new2 w).2.congr fun n _ => by rw [none_span (lowE lo)]; congr 1; omega, by go_grown⟩
    case round =>
      obtain ⟨b, g1, g2, rfl, hA, hS, hb⟩ := hrel
      have HS := hidden hS
      have HA := hidden hA
      by_cases hlt : b ≤ highE hi
      · obtain ⟨c0, c1, c2, c3, f0, f1, f2, f3⟩ := hS.facts
        clear hS hA
        have HO := hidden (or_one (fSpan (lowE lo) (b - 1)) b (by omega))
        have HX := hidden (or_other (fSpan (lowE lo) (b - 1)) b.toNat)
        have hc : (b / 64).toNat = 0 ∨ (b / 64).toNat = 1 ∨ (b / 64).toNat = 2 ∨ (b / 64).toNat = 3 := by omega
        rcases hc with hq | hq | hq | hq
        all_goals
          go_wp2
          go_region
          go_wp2
          refine ⟨⟨b + 1, by omega, by omega, rfl, (HA.out.other (by omega) _).drew, ((HS.out.one _ (by decide) (HO.out _ (by omega)) fun j hj => HX.out j (by omega)).congr fun n _ => spn_step l0 g1 n).drew, (hb.setCell (by simp) _).drew⟩, by simp [intOf]; omega⟩
      · obtain ⟨c0, c1, c2, c3, f0, f1, f2, f3⟩ := hS.facts
        obtain ⟨d0, d1, d2, d3, g0, g3, g4, g5⟩ := hA.facts
        clear hS hA
        go_wp2
        exact ret_setAt Tryd.results68 rfl rfl HA.out.stored (HF.out b g1 (by omega) g2) ⟨rfl, below_cells hb _ (by omega) _ _ _ _⟩
end Go.Proofs.YthiiinbkkjacbaaDoor

/- Contracts of the unions of a list of sets, and of the reference's Not. -/
namespace Go.Proofs.YthiiinbkkjacbaaDoor
open Go.RowKit

/-- a slice of sets that reads as a list -/
def Sets (w : World) (a : Option Addr) (len : Nat) (fs : List (Nat → Bool)) : Prop :=
  fs.length = len ∧ (0 < len → ∃ b off, a = some ⟨b, off, none⟩ ∧ b < w.heap.size ∧ ∀ i, i < len → ∀ j, j < 4 → w.cell? ⟨b, off + i * 4 + j, none⟩ = some (.int .u64 (word (fs.getD i fNone) j)))
def fAny (fs : List (Nat → Bool)) (n : Nat) : Bool := fs.any fun f => f n
theorem any_snoc (fs : List (Nat → Bool)) (k : Nat) (h : k < fs.length) (n : Nat) : fOr (fAny (fs.take k)) (fs.getD k fNone) n = fAny (fs.take (k + 1)) n := by
  simp only [fOr, fAny]
  rw [List.take_succ_eq_append_getElem h, List.any_append]
  simp [List.getD_eq_getElem?_getD, h]
theorem any_none (fs : List (Nat → Bool)) (n : Nat) : fNone n = fAny (fs.take 0) n := by simp [fNone, fAny]

theorem SetAt.stored4 {w : World} {B : Nat} {f g : Nat → Bool} (h : SetAt w B f) {v0 v1 v2 v3 : Int} (h0 : v0 = word g 0) (h1 : v1 = word g 1) (h2 : v2 = word g 2) (h3 : v3 = word g 3) :
    SetAt ((((w.setCell ⟨B, 0, none⟩ (.int .u64 v0)).setCell ⟨B, 1, none⟩ (.int .u64 v1)).setCell ⟨B, 2, none⟩ (.int .u64 v2)).setCell ⟨B, 3, none⟩ (.int .u64 v3)) B g := by
  subst h0 h1 h2 h3
  exact h.stored

set_option maxRecDepth 100000 in
theorem all_calls (a : Option Addr) (len cap : Nat) (fs : List (Nat → Bool)) (w : World) (hl : len ≤ 9223372036854775807) (hfs : Sets w a len fs) :
    Calls Tryd.prog 80 #[.slice a len cap] w fun e w' => e = .returned (.agg #[.int .u64 (word (fAny fs) 0), .int .u64 (word (fAny fs) 1), .int .u64 (word (fAny fs) 2), .int .u64 (word (fAny fs) 3)]) ∧ Below w.heap.size w w' := by
  obtain ⟨hn, hp⟩ := hfs
  have HN := hidden hn
  have HP := hidden hp
  have HW := hidden (fun f g => word_or f g)
  clear hn hp
  go_enter Tryd.func80, Tryd.ntmps80
  go_wp2
  go_loopw [9] (fun i wr => ∃ k : Nat, k ≤ len ∧ i = .int .i64 k ∧ SetAt wr w.heap.size fNone ∧ SetAt wr (w.heap.size + 1) (fAny (fs.take k)) ∧ Below w.heap.size w wr) (fun i _ => len - (intOf i).toNat)
  case atStart =>
    exact ⟨0, by omega, rfl, (new2 w).1, (new2 w).2.congr fun n _ => any_none fs n, by go_grown⟩
  case round =>
    obtain ⟨k, hk, rfl, hA, hS, hb⟩ := hrel
    have HS := hidden hS
    have HA := hidden hA
    have l1 := hS.lt
    by_cases hlt : k < len
    · obtain ⟨c0, c1, c2, c3, f0, f1, f2, f3⟩ := hS.facts
      obtain ⟨b, off, ea, hbl, hcell⟩ := HP.out (by omega)
      have e0 := (hb.cell (p := ⟨b, off + k * 4 + 0, none⟩) hbl).trans (hcell k hlt 0 (by decide))
      have e1 := (hb.cell (p := ⟨b, off + k * 4 + 1, none⟩) hbl).trans (hcell k hlt 1 (by decide))
      have e2 := (hb.cell (p := ⟨b, off + k * 4 + 2, none⟩) hbl).trans (hcell k hlt 2 (by decide))
      have e3 := (hb.cell (p := ⟨b, off + k * 4 + 3, none⟩) hbl).trans (hcell k hlt 3 (by decide))
      have e0 : wr.cell? ⟨b, off + k * 4, none⟩ = some (.int .u64 (word (fs.getD k fNone) 0)) := e0
      clear hcell
      subst ea
      generalize hg : fs.getD k fNone = g at *
      have HG := hidden hg
      clear hS hA hg
      go_wp2
      refine wp_loop_rounds 5 ?_
      iterate 4
        rw [rounds_succ]
        go_wp2
        go_region
        go_wp2
      rw [rounds_succ]
      go_wp2
      refine ⟨⟨k + 1, by omega, by go_num, ((set_other HA.out (by omega) _ _ _ _).alloc _).drew.drew.drew.drew, (((HS.out.stored4 (HW.out _ _ 0) (HW.out _ _ 1) (HW.out _ _ 2) (HW.out _ _ 3)).congr fun n _ => ?_).alloc _).drew.drew.drew.drew,
        ((below_cells hb _ (by omega) _ _ _ _).alloc (by simp; omega) _).drew.drew.drew.drew⟩, by simp [intOf]; omega⟩
      rw [← HG.out]
      exact any_snoc fs k (by rw [HN.out]; exact hlt) n
    · have e : k = len := by omega
      have HE := hidden e
      obtain ⟨c0, c1, c2, c3, f0, f1, f2, f3⟩ := hS.facts
      obtain ⟨d0, d1, d2, d3, g0, g1, g2, g3⟩ := hA.facts
      clear hS hA e
      go_wp2
      refine ret_setAt Tryd.results80 rfl rfl HA.out.stored (fun n hn => ?_) ⟨rfl, below_cells hb _ (by omega) _ _ _ _⟩
      rw [HE.out, ← HN.out, List.take_length]

theorem rnot_calls (f : Nat → Bool) (w : World) :
    Calls Tryd.prog 26 #[(.agg #[.int .u64 (word (f) 0), .int .u64 (word (f) 1), .int .u64 (word (f) 2), .int .u64 (word (f) 3)])] w fun e w' => e = .returned (.agg #[.int .u64 (word (fNot f) 0), .int .u64 (word (fNot f) 1), .int .u64 (word (fNot f) 2), .int .u64 (word (fNot f) 3)]) ∧ Below w.heap.size w w' := by
  go_enter Tryd.func26, Tryd.ntmps26
  go_wp2
  go_region_with (first
    | (go_at_call 51; refine (rspan_calls 0 255 _).mono ?_; rintro e w1 ⟨rfl, hb1⟩; have hF1 := ((SetAt.new w f).alloc (.cells #[.int .u64 0, .int .u64 0, .int .u64 0, .int .u64 0] 25)).drew.below hb1; have HN1 := hidden ((SetAt.newNone (w.alloc (.cells #[.int .u64 (word (f) 0), .int .u64 (word (f) 1), .int .u64 (word (f) 2), .int .u64 (word (f) 3)] 25)) (w.heap.size + 1) (by simp)).drew.below hb1); have HB1 := hidden hb1; clear hb1; obtain ⟨c0, c1, c2, c3, f0, f1, f2, f3⟩ := hF1.facts; clear hF1)
    | (go_at_call 50; refine (two_calls 2 (fSpan 0 255) f _ (by simp)).mono ?_; rintro e w2 ⟨rfl, hb2⟩; have hN2 := HN1.out.below hb2; have HB2 := hidden hb2; clear hb2; obtain ⟨d0, d1, d2, d3, g0, g1, g2, g3⟩ := hN2.facts; have HN2 := hidden hN2; clear hN2))
  all_goals
    go_wp2
    refine ret_setAt Tryd.results26 rfl rfl HN2.out.stored (fun n hn => ?_) ⟨rfl, below_cells (below_then (below_then (by go_grown) (by simp; omega) HB1.out) (by have := HB1.out.size; simp at this; omega) HB2.out) _ (by omega) _ _ _ _⟩
    simp [fTwo, fSpan, fNot]
    omega
end Go.Proofs.YthiiinbkkjacbaaDoor

/- Contract of Count. -/
namespace Go.Proofs.YthiiinbkkjacbaaDoor
open Go.RowKit

theorem count_calls (f : Nat → Bool) (w : World) :
    Calls Tryd.prog 17 #[(.agg #[.int .u64 (word (f) 0), .int .u64 (word (f) 1), .int .u64 (word (f) 2), .int .u64 (word (f) 3)])] w fun e w' => e = .returned (.int .i64 (0 + pop 64 (word f 0) + pop 64 (word f 1) + pop 64 (word f 2) + pop 64 (word f 3) : Nat)) ∧ Below w.heap.size w w' := by
  have p0 := pop_le 64 (word f 0)
  have p1 := pop_le 64 (word f 1)
  have p2 := pop_le 64 (word f 2)
  have p3 := pop_le 64 (word f 3)
  have HL := hidden (fun i => word_lt f i)
  go_enter Tryd.func17, Tryd.ntmps17
  go_wp2
  refine wp_loop_rounds 5 ?_
  iterate 4
    rw [rounds_succ]
    go_wp2_with fail
    refine (ones_calls _ _ (HL.out _)).mono ?_
    rintro e w' ⟨rfl, rfl⟩
    go_wp2
  rw [rounds_succ]
  go_wp2
  go_ret
  refine ⟨ret_i ?_, by go_grown⟩
  simp

end Go.Proofs.YthiiinbkkjacbaaDoor
