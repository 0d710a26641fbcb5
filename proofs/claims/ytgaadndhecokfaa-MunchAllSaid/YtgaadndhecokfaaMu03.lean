/- Pair, Later, KiSets, KiROf, put together. -/
import Derived.Test.YtgaadndhecokfaaMu02
import Derived.Handy
import Derived.Laws.ResultCell
import Derived.Laws.Rows
import Derived.Lib.SmallJoins
import Derived.Deep.QuietTactic
import Derived.BigQuiet
import Derived.Test.YtgaadndhecokfaaMu01
/- Blocks of two numbers (structs of two ints), and results that are such structs, with and without a plain result behind them. -/
namespace Go.Proofs.Ytgaadndhecokfaa
open Go.RowKit

/-- block B is a struct of two numbers -/
def PairAt (t : TypeId) (w : World) (B : Nat) (a b : Int) : Prop := w.heap[B]? = some (.cells #[.int .i64 a, .int .i64 b] t (0, 0))
theorem PairAt.facts {t : TypeId} {w : World} {B : Nat} {a b : Int} (h : PairAt t w B a b) :
    w.cell? ⟨B, 0, none⟩ = some (.int .i64 a) ∧ w.cell? ⟨B, 1, none⟩ = some (.int .i64 b) ∧ w.frozen? ⟨B, 0, none⟩ = false ∧ w.frozen? ⟨B, 1, none⟩ = false :=
  ⟨cell_of_row w B 0 _ _ _ h, cell_of_row w B 1 _ _ _ h, frozen_of_row w B 0 _ _ h, frozen_of_row w B 1 _ _ h⟩
theorem PairAt.lt {t : TypeId} {w : World} {B : Nat} {a b : Int} (h : PairAt t w B a b) : B < w.heap.size := by
  rcases Nat.lt_or_ge B w.heap.size with hlt | hge
  · exact hlt
  · unfold PairAt at h
    rw [Array.getElem?_eq_none hge] at h
    cases h
theorem PairAt.below {t : TypeId} {w w' : World} {B : Nat} {a b : Int} (h : PairAt t w B a b) (hb : Below w.heap.size w w') : PairAt t w' B a b :=
  (hb.block B h.lt).trans h
theorem PairAt.kept {t : TypeId} {w w' : World} {B n : Nat} {a b : Int} (h : PairAt t w B a b) (hb : Below n w w') (hB : B < n) : PairAt t w' B a b :=
  (hb.block B hB).trans h
theorem PairAt.new (t : TypeId) (w : World) (a b : Int) : PairAt t (w.alloc (.cells #[.int .i64 a, .int .i64 b] t)) w.heap.size a b := heap_alloc_new w _
theorem PairAt.alloc {t : TypeId} {w : World} {B : Nat} {a b : Int} (h : PairAt t w B a b) (o : Obj) : PairAt t (w.alloc o) B a b :=
  (heap_alloc_old w _ h.lt).trans h
theorem PairAt.stored {t : TypeId} {w : World} {B : Nat} {a b : Int} (h : PairAt t w B a b) (a' b' : Int) :
    PairAt t ((w.setCell ⟨B, 0, none⟩ (.int .i64 a')).setCell ⟨B, 1, none⟩ (.int .i64 b')) B a' b' :=
  heap_setCell_same _ B 1 _ _ _ (heap_setCell_same _ B 0 _ _ _ h)
theorem PairAt.other {t : TypeId} {w : World} {B b i : Nat} {x y : Int} (h : PairAt t w B x y) (hne : B ≠ b) (v : Value) : PairAt t (w.setCell ⟨b, i, none⟩ v) B x y := by
  unfold PairAt at h ⊢
  rw [heap_setCell_other _ _ _ _ hne, h]
theorem PairAt.drew {t : TypeId} {w : World} {B : Nat} {a b : Int} (h : PairAt t w B a b) : PairAt t w.drew B a b := h

theorem PairAt.made {t : TypeId} {w : World} {a b : Int} {B : Nat} (h : B = w.heap.size) : PairAt t (w.alloc (.cells #[.int .i64 a, .int .i64 b] t)) B a b := by
  subst h
  exact PairAt.new t w a b
/-- block B is one cell -/
def OneAt (t : TypeId) (w : World) (B : Nat) (v : Value) : Prop := w.heap[B]? = some (.cells #[v] t (0, 0))
theorem OneAt.cell {t : TypeId} {w : World} {B : Nat} {v : Value} (h : OneAt t w B v) : w.cell? ⟨B, 0, none⟩ = some v := cell_of_row w B 0 _ _ _ h
theorem OneAt.frozen {t : TypeId} {w : World} {B : Nat} {v : Value} (h : OneAt t w B v) : w.frozen? ⟨B, 0, none⟩ = false := frozen_of_row w B 0 _ _ h
theorem OneAt.kept {t : TypeId} {w w' : World} {B n : Nat} {v : Value} (h : OneAt t w B v) (hb : Below n w w') (hB : B < n) : OneAt t w' B v := (hb.block B hB).trans h
theorem OneAt.lt {t : TypeId} {w : World} {B : Nat} {v : Value} (h : OneAt t w B v) : B < w.heap.size := by
  rcases Nat.lt_or_ge B w.heap.size with hlt | hge
  · exact hlt
  · unfold OneAt at h
    rw [Array.getElem?_eq_none hge] at h
    cases h
theorem OneAt.made {t : TypeId} {w : World} {v : Value} {B : Nat} (h : B = w.heap.size) : OneAt t (w.alloc (.cells #[v] t)) B v := by
  subst h
  exact heap_alloc_new w _
theorem OneAt.alloc {t : TypeId} {w : World} {B : Nat} {v : Value} (h : OneAt t w B v) (o : Obj) : OneAt t (w.alloc o) B v := (heap_alloc_old w _ h.lt).trans h
theorem OneAt.stored {t : TypeId} {w : World} {B : Nat} {v : Value} (h : OneAt t w B v) (v' : Value) : OneAt t (w.setCell ⟨B, 0, none⟩ v') B v' := heap_setCell_same _ B 0 _ _ _ h
theorem OneAt.other {t : TypeId} {w : World} {B b i : Nat} {v : Value} (h : OneAt t w B v) (hne : B ≠ b) (u : Value) : OneAt t (w.setCell ⟨b, i, none⟩ u) B v := by
  unfold OneAt at h ⊢
  rw [heap_setCell_other _ _ _ _ hne, h]
end Go.Proofs.Ytgaadndhecokfaa

/- A region that draws its order, whose own operations only read, and whose callees may lay blocks but hand back plain values: walked once, in the text's order. -/
namespace Go.Proofs.Ytgaadndhecokfaa
open Go.RowKit

/-- a world behind w: of what was there nothing has turned -/
structure Later (w : World) where
  at' : World
  ok : Below w.heap.size w at'
instance later_one (w : World) : Nonempty (Later w) := ⟨⟨w, Below.refl _ _⟩⟩
theorem wp_region_later {P : Program} {id : Nat} {Q : Exit → Act → World → Prop} {a : Act} {w : World} {l : List Oper} (hm : P.follows .mixedOrders = true) (hB : Region.lexB .any l.toArray = true)
    (h : wpQuiet P l.toArray (fun w' => ∃ p : Later w, w' = p.at') (fun a' => ∀ w', (∃ p : Later w, w' = p.at') → Q .normal a' w') l a) : (Code.region id l.toArray true).wp P Q a w :=
  wp_region_quiet (C := fun w' => ∃ p : Later w, w' = p.at') hm hB ⟨⟨w.drew, (Below.refl _ _).drew⟩, rfl⟩ (by simpa using h)
theorem Later.cell {w : World} {a : Addr} {v : Value} (h : w.cell? a = some v) (ha : a.block < w.heap.size) (p : Later w) : p.at'.cell? a = some v := (p.ok.cell ha).trans h
theorem Later.calls {P : Program} {f : FuncId} {args : Array Value} {w : World} {p : Later w} {v : Value}
    (h : Calls P f args p.at' fun e w' => e = .returned v ∧ Below p.at'.heap.size p.at' w') : Calls P f args p.at' fun e w'' => e = .returned v ∧ ∃ q : Later w, w'' = q.at' :=
  h.mono fun _ w'' ⟨he, hb⟩ => ⟨he, ⟨w'', below_after p.ok hb⟩, rfl⟩
end Go.Proofs.Ytgaadndhecokfaa

/- A slice of sets as it came in: its key; the reference's alike. -/
namespace Go.Proofs.Ytgaadndhecokfaa
open Go.RowKit

/-- a slice of sets that reads as a list -/
def Sets (w : World) (a : Option Addr) (len : Nat) (fs : List (Nat → Bool)) : Prop :=
  fs.length = len ∧ (0 < len → ∃ b off, a = some ⟨b, off, none⟩ ∧ b < w.heap.size ∧ ∀ i, i < len → ∀ j, j < 4 → w.cell? ⟨b, off + i * 4 + j, none⟩ = some (.int .u64 (word (fs.getD i fNone) j)))
theorem Sets.below {a : Option Addr} {n : Nat} {fs : List (Nat → Bool)} {w w' : World} (h : Sets w a n fs) (hb : Below w.heap.size w w') : Sets w' a n fs := by
  refine ⟨h.1, fun hp => ?_⟩
  obtain ⟨b, off, e, hlt, hc⟩ := h.2 hp
  exact ⟨b, off, e, Nat.lt_of_lt_of_le hlt hb.size, fun i hi j hj => (hb.cell (p := ⟨b, _, none⟩) hlt).trans (hc i hi j hj)⟩
theorem Sets.at' {a : Option Addr} {n : Nat} {fs : List (Nat → Bool)} {w : World} (h : Sets w a n fs) {i : Nat} (hi : i < n) :
    ∃ b off, a = some ⟨b, off, none⟩ ∧ b < w.heap.size ∧ w.cell? ⟨b, off + i * 4, none⟩ = some (.int .u64 (word (fs.getD i fNone) 0)) ∧ w.cell? ⟨b, off + i * 4 + 1, none⟩ = some (.int .u64 (word (fs.getD i fNone) 1)) ∧
      w.cell? ⟨b, off + i * 4 + 2, none⟩ = some (.int .u64 (word (fs.getD i fNone) 2)) ∧ w.cell? ⟨b, off + i * 4 + 3, none⟩ = some (.int .u64 (word (fs.getD i fNone) 3)) := by
  obtain ⟨b, off, e, hlt, hc⟩ := h.2 (by omega)
  exact ⟨b, off, e, hlt, hc i hi 0 (by decide), hc i hi 1 (by decide), hc i hi 2 (by decide), hc i hi 3 (by decide)⟩

/-- which of the sets have it -/
def keyL (fs : List (Nat → Bool)) (b : Nat) : List Bool := fs.map fun f => f b
theorem keyL_eq {fs : List (Nat → Bool)} {a b : Nat} : keyL fs a = keyL fs b ↔ ∀ i, i < fs.length → fs.getD i fNone a = fs.getD i fNone b := by
  unfold keyL
  constructor
  · intro h i hi
    have := congrArg (fun l => l.getD i false) h
    simpa [List.getD_eq_getElem?_getD, hi] using this
  · intro h
    apply List.ext_getElem
    · simp
    · intro i h1 h2
      have := h i (by simpa using h1)
      have hi : i < fs.length := by simpa using h1
      simpa [List.getD_eq_getElem?_getD, hi] using this
set_option maxHeartbeats 1000000 in
set_option maxRecDepth 100000 in
theorem alike_calls (a : Option Addr) (len cap : Nat) (fs : List (Nat → Bool)) (x y : Nat) (w : World) (hl : len ≤ 9223372036854775807) (hx : x < 256) (hy : y < 256) (hS : Sets w a len fs) :
    Calls Try.prog 53 #[.slice a len cap, .int .i64 x, .int .i64 y] w fun e w' => e = .returned (.bool (decide (keyL fs x = keyL fs y))) ∧ Below w.heap.size w w' := by
  have HS := hidden hS
  have HN := hidden hS.1
  clear hS
  go_enter Try.func53, Try.ntmps53
  go_wp2
  go_loopw [7] (fun i wr => ∃ k : Nat, k ≤ len ∧ i = .int .i64 k ∧ (∀ i, i < k → fs.getD i fNone x = fs.getD i fNone y) ∧ Below w.heap.size w wr) (fun i _ => len - (Go.RowKit.intOf i).toNat)
  case atStart => exact ⟨0, by omega, rfl, fun i h => by omega, Below.refl _ _⟩
  case round =>
    obtain ⟨k, hk, rfl, hf, hb⟩ := hrel
    have HF := hidden hf
    have HB := hidden hb
    have hz := hb.size
    clear hf hb
    by_cases hlt : k < len
    · obtain ⟨b, off, rfl, hbl, e0, e1, e2, e3⟩ := (HS.out.below HB.out).at' hlt
      have d0 := fun (p : Later wr) => Later.cell e0 hbl p
      have d1 := fun (p : Later wr) => Later.cell e1 hbl p
      have d2 := fun (p : Later wr) => Later.cell e2 hbl p
      have d3 := fun (p : Later wr) => Later.cell e3 hbl p
      have wx : IntKind.u8.wrap (x : Int) = x := by rw [IntKind.wrap_u8]; omega
      have wy : IntKind.u8.wrap (y : Int) = y := by rw [IntKind.wrap_u8]; omega
      clear e0 e1 e2 e3
      obtain ⟨g, hg⟩ : ∃ g, g = fs.getD k fNone := ⟨_, rfl⟩
      rw [← hg] at d0 d1 d2 d3
      have HG := hidden hg
      clear hg
      cases hq : (g x != g y)
      · have hq1 : (g x == g y) = true := by simpa using hq
        go_wp2
        refine wp_region_later (by kernel_rfl) (by kernel_rfl) ?_
        repeat (go_big_quiet_step ((go_at_call 71; first | (with_reducible exact Later.calls (rhas_nat g x _ hx)) | (with_reducible exact Later.calls (rhas_nat g y _ hy)))))
        refine wpQuiet_nil ?_
        rintro _ ⟨⟨_, hb5⟩, rfl⟩
        rename_i w5
        have HB5 := hidden (below_then HB.out hz hb5)
        have HQ := hidden hq1
        clear hb5 d0 d1 d2 d3 hq hq1
        go_wp2
        go_roundw
        case rel => exact ⟨k + 1, by omega, by go_num, fun i hi => by
            by_cases e : i = k
            · subst e
              rw [← HG.out]
              simpa using HQ.out
            · exact HF.out i (by omega), HB5.out⟩
        case measure => simp [Go.RowKit.intOf]; omega
      · have hq1 : (g x == g y) = false := by simpa using hq
        go_wp2
        refine wp_region_later (by kernel_rfl) (by kernel_rfl) ?_
        repeat (go_big_quiet_step ((go_at_call 71; first | (with_reducible exact Later.calls (rhas_nat g x _ hx)) | (with_reducible exact Later.calls (rhas_nat g y _ hy)))))
        refine wpQuiet_nil ?_
        rintro _ ⟨⟨_, hb5⟩, rfl⟩
        rename_i w5
        have HB5 := hidden (below_then HB.out hz hb5)
        have HQ := hidden hq1
        clear hb5 d0 d1 d2 d3 hq hq1
        go_wp2
        go_ret
        refine ⟨ret_b ?_, HB5.out⟩
        symm
        rw [decide_eq_false_iff_not, keyL_eq]
        intro h
        have h2 := h k (by rw [HN.out]; exact hlt)
        rw [← HG.out] at h2
        have h3 := HQ.out
        rw [h2] at h3
        simp at h3
    · obtain rfl : k = len := by omega
      go_wp2
      go_ret
      refine ⟨ret_b ?_, HB.out⟩
      symm
      rw [decide_eq_true_iff, keyL_eq]
      intro i hi
      exact HF.out i (by rw [HN.out] at hi; exact hi)
end Go.Proofs.Ytgaadndhecokfaa

/- Contract of the reference's Of. -/
namespace Go.Proofs.Ytgaadndhecokfaa
open Go.RowKit

/-- results: an array in memory, and a number -/
theorem ret_arr2 {fn : Func} {R : Ending → World → Prop} {a : Act} {w : World} {B p u : Nat} {v : Nat → Value} {g : Nat → Nat} {x : Value} (h : fn.results = #[.cell p 22, .tmp u]) (hp : a.tmps.getD p undef = .pointer (some ⟨B, 0, none⟩))
    (hu : a.tmps.getD u undef = x) (hd : a.defers = []) (hS : ArrAt w B 22 v) (e : ∀ n, n < 256 → v n = nV g n) (hR : R (.returned (.tuple #[ar g, x])) w) : bodyPost Try.prog fn R .ret a w := by
  have hl := run_loadVar_row (P := Try.prog) w B 22 22 _ (0, 0) _ (hS.congr e) Try.underlying22 rfl (by rw [cellsN_size]; exact size_arr)
  refine bodyPost_ret (v := .tuple #[ar g, x]) ?_ hd hR
  rw [results_cell_tmp h, hp, hu]
  simp [asAddr, hl, Result.andThen]

set_option maxHeartbeats 1000000 in
set_option maxRecDepth 100000 in
theorem krof_calls (l : Option Addr) (len cap : Nat) (fs : List (Nat → Bool)) (w : World) (hl : len ≤ 9223372036854775807) (hS : Sets w l len fs) :
    Calls Try.prog 33 #[.slice l len cap] w fun e w' => e = .returned (.tuple #[ar (clsK (keyL fs)), .int .i64 (cntK (keyL fs) 256)]) ∧ Below w.heap.size w w' := by
  have HS := hidden hS
  clear hS
  have hal := run_zero_arr
  have hbu := run_build_arr
  have HO := hidden (show ArrAt ((w.alloc (.cells (cellsN (nV fun _ => 0)) 22)).alloc (.cells (cellsN (nV fun _ => 0)) 22)) (w.heap.size + 1) 22 (nV fun _ => 0) from ArrAt.newAt (by simp))
  go_enter Try.func33, Try.ntmps33
  go_wp2_with (refine store_arr rfl (x := .tmp 4) (y := .tmp 8) rfl (B := w.heap.size + 1) (fun _ => 0) rfl rfl HO.out ?_; intro w2 hw2 hs2)
  have z0 : w2.heap.size = w.heap.size + 2 := by rw [hs2]; simp
  have HW : Hid (ArrAt w2 w.heap.size 22 (nV fun _ => 0) ∧ ArrAt w2 (w.heap.size + 1) 22 (nV fun _ => 0) ∧ Below w.heap.size w w2) := by
    have e := hw2.out
    subst e
    exact ⟨((ArrAt.new _ _ _).alloc _).otherRow (by omega) _, HO.out.storedRow _, below_setRow (by go_grown) (by omega) _⟩
  clear hw2 hs2 HO
  go_wp2
  go_loopw [5, 6] (fun x i wr => ∃ b : Nat, b ≤ 256 ∧ x = .int .i64 (cntK (keyL fs) b) ∧ i = .int .i64 b ∧ ArrAt wr w.heap.size 22 (nV fun _ => 0) ∧ ArrAt wr (w.heap.size + 1) 22 (nV (upG (clsK (keyL fs)) b)) ∧ Below w.heap.size w wr ∧ w.heap.size + 2 ≤ wr.heap.size) (fun _ i _ => 256 - (Go.RowKit.intOf i).toNat)
  case atStart =>
    obtain ⟨h1, h4, h5⟩ := HW.out
    exact ⟨0, by omega, rfl, rfl, h1, h4.congr fun j _ => by unfold nV; rw [upG_none], h5, by omega⟩
  case round =>
    obtain ⟨b, hk, rfl, rfl, h1, h4, h5, h6⟩ := hrel
    have H1 := hidden h1
    have H4 := hidden h4
    have H5 := hidden h5
    by_cases hlt : b < 256
    · clear h1 h4 h5
      have hcn := cntK_le (keyL fs) b
      have hcs := cnt_step (keyL fs) b
      have hbd : decide ((b : Int) < 256) = true := decide_eq_true (by omega)
      go_wp2
      go_loopw [7] (fun i wr => ∃ a : Nat, a ≤ fstK (keyL fs) b ∧ i = .int .i64 a ∧ ArrAt wr w.heap.size 22 (nV fun _ => 0) ∧ ArrAt wr (w.heap.size + 1) 22 (nV (upG (clsK (keyL fs)) b)) ∧ Below w.heap.size w wr ∧ w.heap.size + 2 ≤ wr.heap.size) (fun i _ => fstK (keyL fs) b - (Go.RowKit.intOf i).toNat)
      case atStart => exact ⟨0, by omega, rfl, H1.out, H4.out, H5.out, h6⟩
      case round =>
        clear H1 H4 H5
        obtain ⟨a, ha, rfl, h1, h4, h5, h6⟩ := hrel
        have H1 := hidden h1
        have H4 := hidden h4
        have H5 := hidden h5
        have hfl := fst_le (keyL fs) b
        have hab : a < 256 := by omega
        clear h1 h4 h5
        go_wp2_with fail
        refine (alike_calls l len cap fs a b _ hl hab hlt (HS.out.below H5.out)).mono ?_
        rintro e w5 ⟨rfl, hb5⟩
        have G1 := hidden (H1.out.below hb5)
        have G4 := hidden (H4.out.below hb5)
        have G5 := hidden (below_then H5.out (by omega) hb5)
        have g6 := hb5.size
        clear hb5 H1 H4 H5
        by_cases hlf : a < fstK (keyL fs) b
        · rw [decide_eq_false (fst_min (keyL fs) hlf)]
          go_wp2
          go_roundw
          case rel => exact ⟨a + 1, by omega, by go_num, G1.out, G4.out, G5.out, by omega⟩
          case measure => simp [Go.RowKit.intOf]; omega
        · have hk2 := fst_key (keyL fs) b
          obtain rfl : a = fstK (keyL fs) b := by omega
          have HFF := hidden (cls_first (keyL fs) b)
          have HNEW := hidden (cls_new (keyL fs) (b := b))
          have HCO := hidden (cnt_old (keyL fs) (n := b))
          have HCN := hidden (cnt_new (keyL fs) (n := b))
          have hc2 : cntK (keyL fs) b ≤ 255 := by omega
          rw [decide_eq_true hk2]
          clear hk2 hlf
          generalize fstK (keyL fs) b = a at *
          by_cases hlab : a < b
          · have hcl := (G4.out.cell hab)
            unfold nV at hcl
            rw [upG_all _ hlab, HFF.out] at hcl
            have hfz := G4.out.frozen b
            have hco := G4.out.cell hlt
            go_wp2
            refine ⟨⟨b + 1, by omega, by rw [HCO.out (by omega)], by go_num, G1.out.other (by omega) _, (G4.out.stored b _).congr fun j _ => ?_, G5.out.setCell (by dsimp only; omega) _, Nat.le_trans (by omega) ((Below.refl 0 w5).setCell (Nat.zero_le _) _).size⟩, by simp [Go.RowKit.intOf]; omega⟩
            rw [putN_nV]
            unfold nV
            rw [upG_put]
          · obtain rfl : a = b := by omega
            have wn : IntKind.u8.wrap (cntK (keyL fs) a : Int) = cntK (keyL fs) a := by rw [IntKind.wrap_u8]; omega
            have hfz := G4.out.frozen a
            have hco := G4.out.cell hlt
            go_wp2
            refine ⟨⟨a + 1, by omega, by rw [HCN.out (by trivial)]; simp, by go_num, G1.out.other (by omega) _, (G4.out.stored a _).congr fun j _ => ?_, G5.out.setCell (by dsimp only; omega) _, Nat.le_trans (by omega) ((Below.refl 0 w5).setCell (Nat.zero_le _) _).size⟩, by simp [Go.RowKit.intOf]; omega⟩
            rw [putN_nV, ← HNEW.out (by trivial)]
            unfold nV
            rw [upG_put]
    · obtain rfl : b = 256 := by omega
      clear h1 h4 h5
      go_wp2_with (first
        | (refine load_arr rfl (x := .tmp 4) rfl (B := w.heap.size + 1) rfl H4.out ?_)
        | (refine store_arr rfl (x := .tmp 2) (y := .tmp 34) rfl (B := w.heap.size) (upG (clsK (keyL fs)) 256) rfl rfl H1.out ?_; intro w3 hw3 hs3))
      have HE : Hid (ArrAt w3 w.heap.size 22 (nV (upG (clsK (keyL fs)) 256)) ∧ Below w.heap.size w w3) := by
        have e := hw3.out
        subst e
        exact ⟨H1.out.storedRow _, below_setRow H5.out (by omega) _⟩
      exact ret_arr2 Try.results33 rfl rfl rfl HE.out.1 (fun n hn => by unfold nV; rw [upG_all _ hn]) ⟨rfl, HE.out.2⟩
end Go.Proofs.Ytgaadndhecokfaa
