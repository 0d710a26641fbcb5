/- FaNCat, FaStR, put together. -/
import Derived.Test.YthkboclooplpeaaGreatDoorRf26
import Derived.Deep.RegionHeld3
/- net.cat, net.plus, the closure of a star: places that may follow others. -/
namespace Go.Proofs.YthkboclooplpeaaGreatDoor
open Go.RowKit Go.Lib Go.Joins
attribute [local go_sem] evalR_tmp evalR_const evalR_global evalR_func
theorem NetAt.other {w w' : World} {NB base b : Nat} {S : List (Nat → Bool)} {E : Nat → Nat → Bool} {cs : Array Value} {t : TypeId} {fr : Nat × Nat} (h : NetAt w NB base S E) (hb : w.heap[b]? = some (.cells cs t fr)) (h1 : t ≠ 33) (h2 : t ≠ 110) (hg : w.grownBy w' (some b)) : NetAt w' NB base S E := by
  obtain ⟨vs, vn, h⟩ := h
  refine ⟨vs, vn, h.grown hg (fun e => ?_) (own_ne h.sets hb h1) (own_ne h.next hb h1)⟩
  have ho := h.obj
  rw [e, hb] at ho
  simp only [Option.some.injEq, Obj.cells.injEq] at ho
  exact h2 ho.2.1
theorem RchAt.other {w w' : World} {B b : Nat} {l : Rch} (h : RchAt w B l) (hg : w.grownBy w' (some b)) (hne : B ≠ b) : RchAt w' B l := (hg.block B h.lt (by simpa using hne)).trans h
theorem RchAt.mv {X : Nat → Prop} {base : Nat} {w w' : World} {B : Nat} {l : Rch} (h : RchAt w B l) (hm : Mv X base w w') (hX : ¬ X B) : RchAt w' B l := hm.at h hX (by decide)
theorem store_rch1 {ops : Array Oper} {rest : List Oper} {o : Oper} {a : Act} {w : World} {Q : Exit → Act → World → Prop} (hgd : o.guard = none) {x y : Operand} (ho : o.op = .store 33 x y) {B : Nat} {r : Rch} {f : Nat → Bool}
    (hx : a.eval x = .pointer (some ⟨B, 1, none⟩)) (hy : a.eval y = (.agg #[.int .u64 (word (f) 0), .int .u64 (word (f) 1), .int .u64 (word (f) 2), .int .u64 (word (f) 3)])) (hR : RchAt w B r) (h : ∀ w', RchAt w' B ⟨r.null, f, r.last⟩ → w.grownBy w' (some B) → wpList Tryz.prog ops Q rest (a.put o.dst undef) w') : wpList Tryz.prog ops Q (o :: rest) a w :=
  store_at hgd ho hx hy hR 4 (by kernel_rfl) rfl (by simp) (by kernel_rfl) (h _ (setRow_heap w B _ _ _ _ hR) ⟨rfl, rfl, rfl, by simp, fun k _ hk => setRow_other w B k _ (by simpa using hk)⟩)
theorem store_rch5 {ops : Array Oper} {rest : List Oper} {o : Oper} {a : Act} {w : World} {Q : Exit → Act → World → Prop} (hgd : o.guard = none) {x y : Operand} (ho : o.op = .store 33 x y) {B : Nat} {r : Rch} {f : Nat → Bool}
    (hx : a.eval x = .pointer (some ⟨B, 5, none⟩)) (hy : a.eval y = (.agg #[.int .u64 (word (f) 0), .int .u64 (word (f) 1), .int .u64 (word (f) 2), .int .u64 (word (f) 3)])) (hR : RchAt w B r) (h : ∀ w', RchAt w' B ⟨r.null, r.first, f⟩ → w.grownBy w' (some B) → wpList Tryz.prog ops Q rest (a.put o.dst undef) w') : wpList Tryz.prog ops Q (o :: rest) a w :=
  store_at hgd ho hx hy hR 4 (by kernel_rfl) rfl (by simp) (by kernel_rfl) (h _ (setRow_heap w B _ _ _ _ hR) ⟨rfl, rfl, rfl, by simp, fun k _ hk => setRow_other w B k _ (by simpa using hk)⟩)
set_option maxHeartbeats 4000000 in
set_option maxRecDepth 100000 in
theorem plus_calls {w : World} {NB base : Nat} {S : List (Nat → Bool)} {E : Nat → Nat → Bool} (a : Rch) (h_ : NetAt w NB base S E) (ht : Tab w) (hm : S.length ≤ 256) (hF : ∀ p, p < 256 → a.last p = true → p < S.length) :
    Calls Tryz.prog 104 #[.pointer (some ⟨NB, 0, none⟩), rchV a] w fun e w' => e = .returned (rchV a) ∧ NetAt w' NB base S (fun p q => E p q || (a.last p && a.first q)) ∧ Mv (fun _ => False) base w w' := by
  have hba := ((Below.refl w.heap.size w).alloc (Nat.le_refl _) (.cells #[.bool a.null, .int .u64 (word (a.first) 0), .int .u64 (word (a.first) 1), .int .u64 (word (a.first) 2), .int .u64 (word (a.first) 3), .int .u64 (word (a.last) 0), .int .u64 (word (a.last) 1), .int .u64 (word (a.last) 2), .int .u64 (word (a.last) 3)] 83)).alloc (by simp) (.cells #[.bool false, .int .u64 0, .int .u64 0, .int .u64 0, .int .u64 0, .int .u64 0, .int .u64 0, .int .u64 0, .int .u64 0] 83)
  have HLK := hidden (link_calls a.last a.first (h_.below hba) (ht.below hba) hm hF)
  have HA := hidden (show RchAt ((w.alloc (.cells #[.bool a.null, .int .u64 (word (a.first) 0), .int .u64 (word (a.first) 1), .int .u64 (word (a.first) 2), .int .u64 (word (a.first) 3), .int .u64 (word (a.last) 0), .int .u64 (word (a.last) 1), .int .u64 (word (a.last) 2), .int .u64 (word (a.last) 3)] 83)).alloc (.cells #[.bool false, .int .u64 0, .int .u64 0, .int .u64 0, .int .u64 0, .int .u64 0, .int .u64 0, .int .u64 0, .int .u64 0] 83)) w.heap.size a from heap_alloc2_old w _ _)
  have HT := hidden (heap_alloc2_new w (.cells #[.bool a.null, .int .u64 (word (a.first) 0), .int .u64 (word (a.first) 1), .int .u64 (word (a.first) 2), .int .u64 (word (a.first) 3), .int .u64 (word (a.last) 0), .int .u64 (word (a.last) 1), .int .u64 (word (a.last) 2), .int .u64 (word (a.last) 3)] 83) (.cells #[.bool false, .int .u64 0, .int .u64 0, .int .u64 0, .int .u64 0, .int .u64 0, .int .u64 0, .int .u64 0, .int .u64 0] 83))
  have HMV := hidden (show Mv (fun _ => False) base w ((w.alloc (.cells #[.bool a.null, .int .u64 (word (a.first) 0), .int .u64 (word (a.first) 1), .int .u64 (word (a.first) 2), .int .u64 (word (a.first) 3), .int .u64 (word (a.last) 0), .int .u64 (word (a.last) 1), .int .u64 (word (a.last) 2), .int .u64 (word (a.last) 3)] 83)).alloc (.cells #[.bool false, .int .u64 0, .int .u64 0, .int .u64 0, .int .u64 0, .int .u64 0, .int .u64 0, .int .u64 0, .int .u64 0] 83)) from .of_below hba)
  clear h_ ht hm hF hba
  unfold rchV
  go_enter Tryz.func104, Tryz.ntmps104
  go_wp2_with fail
  refine HLK.out.mono ?_
  rintro e w2 ⟨rfl, hN2, hm2⟩
  have HN2 := hidden hN2
  have HMV2 := hidden (HMV.out.trans hm2)
  have ha2 := HA.out.mv hm2 (fun h => h)
  have HT2 := hidden (hm2.at HT.out (fun h => h) (by decide))
  obtain ⟨c0, c1, c2, c3, c4, c5, c6, c7, c8⟩ := ha2.cells
  clear hN2 hm2 ha2
  dsimp only
  go_wp2_with (refine store_row (B := w.heap.size + 1) (cs := #[.bool a.null, .int .u64 (word (a.first) 0), .int .u64 (word (a.first) 1), .int .u64 (word (a.first) 2), .int .u64 (word (a.first) 3), .int .u64 (word (a.last) 0), .int .u64 (word (a.last) 1), .int .u64 (word (a.last) 2), .int .u64 (word (a.last) 3)]) (old := #[.bool false, .int .u64 0, .int .u64 0, .int .u64 0, .int .u64 0, .int .u64 0, .int .u64 0, .int .u64 0, .int .u64 0]) (t := 83) rfl (ty := 83) (x := .tmp 4) (y := .tmp 11) rfl rfl rfl HT2.out 9 (by kernel_rfl) rfl rfl (by kernel_rfl) ?_; intro w9 hw9 hg9; have HL9 := hidden hw9; have HG9 := hidden hg9; clear hw9 hg9)
  exact ret_rch (l := a) Tryz.results104 rfl rfl HL9.out ⟨rfl, HN2.out.other HT2.out (by decide) (by decide) HG9.out, HMV2.out.over (b := w.heap.size + 1) (by omega) HG9.out⟩
set_option maxHeartbeats 4000000 in
set_option maxRecDepth 100000 in
theorem starN_calls {w : World} {NB base PB : Nat} {S : List (Nat → Bool)} {E : Nat → Nat → Bool} (a : Rch) (h_ : NetAt w NB base S E) (ht : Tab w) (hm : S.length ≤ 256) (hF : ∀ p, p < 256 → a.last p = true → p < S.length) (hP : w.cell? ⟨PB, 0, none⟩ = some (.pointer (some ⟨NB, 0, none⟩))) :
    Calls Tryz.prog 103 #[rchV a, .pointer (some ⟨PB, 0, none⟩)] w fun e w' => e = .returned (rchV ⟨true, a.first, a.last⟩) ∧ NetAt w' NB base S (fun p q => E p q || (a.last p && a.first q)) ∧ Mv (fun _ => False) base w w' := by
  have hba := ((Below.refl w.heap.size w).alloc (Nat.le_refl _) (.cells #[.bool a.null, .int .u64 (word (a.first) 0), .int .u64 (word (a.first) 1), .int .u64 (word (a.first) 2), .int .u64 (word (a.first) 3), .int .u64 (word (a.last) 0), .int .u64 (word (a.last) 1), .int .u64 (word (a.last) 2), .int .u64 (word (a.last) 3)] 83)).alloc (by simp) (.cells #[.bool false, .int .u64 0, .int .u64 0, .int .u64 0, .int .u64 0, .int .u64 0, .int .u64 0, .int .u64 0, .int .u64 0] 83)
  have HPL := hidden (plus_calls a (h_.below hba) (ht.below hba) hm hF)
  have HT := hidden (heap_alloc2_new w (.cells #[.bool a.null, .int .u64 (word (a.first) 0), .int .u64 (word (a.first) 1), .int .u64 (word (a.first) 2), .int .u64 (word (a.first) 3), .int .u64 (word (a.last) 0), .int .u64 (word (a.last) 1), .int .u64 (word (a.last) 2), .int .u64 (word (a.last) 3)] 83) (.cells #[.bool false, .int .u64 0, .int .u64 0, .int .u64 0, .int .u64 0, .int .u64 0, .int .u64 0, .int .u64 0, .int .u64 0] 83))
  have HMV := hidden (show Mv (fun _ => False) base w ((w.alloc (.cells #[.bool a.null, .int .u64 (word (a.first) 0), .int .u64 (word (a.first) 1), .int .u64 (word (a.first) 2), .int .u64 (word (a.first) 3), .int .u64 (word (a.last) 0), .int .u64 (word (a.last) 1), .int .u64 (word (a.last) 2), .int .u64 (word (a.last) 3)] 83)).alloc (.cells #[.bool false, .int .u64 0, .int .u64 0, .int .u64 0, .int .u64 0, .int .u64 0, .int .u64 0, .int .u64 0, .int .u64 0] 83)) from .of_below hba)
  have hPB := cell_lt hP
  have HPB := hidden hPB
  clear h_ ht hm hF hba
  unfold rchV at HPL
  unfold rchV
  go_enter Tryz.func103, Tryz.ntmps103
  go_wp2_with fail
  refine HPL.out.mono ?_
  rintro e w2 ⟨rfl, hN2, hm2⟩
  have HN2 := hidden hN2
  have HMV2 := hidden (HMV.out.trans hm2)
  have HT2 := hidden (hm2.at HT.out (fun h => h) (by decide))
  clear hN2 hm2
  go_wp2_with fail
  refine (rchEmpty_calls a w2).mono ?_
  rintro e w3 ⟨rfl, hb3⟩
  have HN3 := hidden (HN2.out.below hb3)
  have HMV3 := hidden (HMV2.out.trans (.of_below hb3))
  have HT3 := hidden ((hb3.block _ (Array.getElem?_eq_some_iff.1 HT2.out).1).trans HT2.out)
  clear hb3
  unfold rchV
  dsimp only
  go_wp2_with (refine store_row (B := w.heap.size + 1) (cs := #[.bool true, .int .u64 (word (a.first) 0), .int .u64 (word (a.first) 1), .int .u64 (word (a.first) 2), .int .u64 (word (a.first) 3), .int .u64 (word (a.last) 0), .int .u64 (word (a.last) 1), .int .u64 (word (a.last) 2), .int .u64 (word (a.last) 3)]) (old := #[.bool false, .int .u64 0, .int .u64 0, .int .u64 0, .int .u64 0, .int .u64 0, .int .u64 0, .int .u64 0, .int .u64 0]) (t := 83) rfl (ty := 83) (x := .tmp 3) (y := .tmp 7) rfl rfl rfl HT3.out 9 (by kernel_rfl) rfl rfl (by kernel_rfl) ?_; intro w9 hw9 hg9; have HL9 := hidden hw9; have HG9 := hidden hg9; clear hw9 hg9)
  exact ret_rch (l := ⟨true, a.first, a.last⟩) Tryz.results103 rfl rfl HL9.out ⟨rfl, HN3.out.other HT3.out (by decide) (by decide) HG9.out, HMV3.out.over (b := w.heap.size + 1) (by omega) HG9.out⟩
/-- what stays while net.cat goes on, behind its link -/
structure Wct (w : World) (NB base : Nat) (S : List (Nat → Bool)) (E : Nat → Nat → Bool) (a b : Rch) (wr : World) : Prop where
  one : RchAt wr w.heap.size a
  two : RchAt wr (w.heap.size + 1) b
  out : wr.heap[w.heap.size + 2]? = some (.cells #[.bool false, .int .u64 0, .int .u64 0, .int .u64 0, .int .u64 0, .int .u64 0, .int .u64 0, .int .u64 0, .int .u64 0] 83 (0, 0))
  net : NetAt wr NB base S E
  mv : Mv (fun _ => False) base w wr
theorem Wct.below {w wr w' : World} {NB base : Nat} {S : List (Nat → Bool)} {E : Nat → Nat → Bool} {a b : Rch} (h : Wct w NB base S E a b wr) (hb : Below wr.heap.size wr w') : Wct w NB base S E a b w' :=
  ⟨h.one.below hb, h.two.below hb, (hb.block _ (Array.getElem?_eq_some_iff.1 h.out).1).trans h.out, h.net.below hb, h.mv.trans (.of_below hb)⟩
theorem Wct.alloc {w wr : World} {NB base : Nat} {S : List (Nat → Bool)} {E : Nat → Nat → Bool} {a b : Rch} (h : Wct w NB base S E a b wr) (o : Obj) : Wct w NB base S E a b (wr.alloc o) := h.below ((Below.refl _ _).alloc (Nat.le_refl _) o)
theorem Wct.other {w wr w' : World} {NB base k : Nat} {S : List (Nat → Bool)} {E : Nat → Nat → Bool} {a b : Rch} {cs : Array Value} {fr : Nat × Nat} (h : Wct w NB base S E a b wr) (hk : wr.heap[k]? = some (.cells cs 83 fr)) (h3 : w.heap.size + 3 ≤ k) (hg : wr.grownBy w' (some k)) : Wct w NB base S E a b w' :=
  ⟨h.one.other hg (by omega), h.two.other hg (by omega), (hg.block _ (Array.getElem?_eq_some_iff.1 h.out).1 (by simp; omega)).trans h.out, h.net.other hk (by decide) (by decide) hg, h.mv.over (b := k) (by omega) hg⟩
theorem Wct.cells {w wr : World} {NB base : Nat} {S : List (Nat → Bool)} {E : Nat → Nat → Bool} {a b : Rch} (h : Wct w NB base S E a b wr) : RchCells wr w.heap.size a ∧ RchCells wr (w.heap.size + 1) b := ⟨h.one.cells, h.two.cells⟩
/-- what net.cat gives -/
def catR (a b : Rch) : Rch := ⟨a.null && b.null, if a.null = true then f2 a.first b.first else a.first, if b.null = true then f2 a.last b.last else b.last⟩
set_option maxHeartbeats 8000000 in
set_option maxRecDepth 100000 in
theorem cat_tt {w : World} {NB base : Nat} {S : List (Nat → Bool)} {E : Nat → Nat → Bool} (a b : Rch) (ha : a.null = true) (hb : b.null = true) (h_ : NetAt w NB base S E) (ht : Tab w) (hm : S.length ≤ 256) (hF : ∀ p, p < 256 → a.last p = true → p < S.length) :
    Calls Tryz.prog 101 #[.pointer (some ⟨NB, 0, none⟩), rchV a, rchV b] w fun e w' => e = .returned (rchV (catR a b)) ∧ NetAt w' NB base S (fun p q => E p q || (a.last p && b.first q)) ∧ Mv (fun _ => False) base w w' := by
  have hba := (((Below.refl w.heap.size w).alloc (Nat.le_refl _) (.cells #[.bool a.null, .int .u64 (word (a.first) 0), .int .u64 (word (a.first) 1), .int .u64 (word (a.first) 2), .int .u64 (word (a.first) 3), .int .u64 (word (a.last) 0), .int .u64 (word (a.last) 1), .int .u64 (word (a.last) 2), .int .u64 (word (a.last) 3)] 83)).alloc (by simp) (.cells #[.bool b.null, .int .u64 (word (b.first) 0), .int .u64 (word (b.first) 1), .int .u64 (word (b.first) 2), .int .u64 (word (b.first) 3), .int .u64 (word (b.last) 0), .int .u64 (word (b.last) 1), .int .u64 (word (b.last) 2), .int .u64 (word (b.last) 3)] 83)).alloc (by simp; omega) (.cells #[.bool false, .int .u64 0, .int .u64 0, .int .u64 0, .int .u64 0, .int .u64 0, .int .u64 0, .int .u64 0, .int .u64 0] 83)
  have HLK := hidden (link_calls a.last b.first (h_.below hba) (ht.below hba) hm hF)
  have HS := hidden (show RchAt (((w.alloc (.cells #[.bool a.null, .int .u64 (word (a.first) 0), .int .u64 (word (a.first) 1), .int .u64 (word (a.first) 2), .int .u64 (word (a.first) 3), .int .u64 (word (a.last) 0), .int .u64 (word (a.last) 1), .int .u64 (word (a.last) 2), .int .u64 (word (a.last) 3)] 83)).alloc (.cells #[.bool b.null, .int .u64 (word (b.first) 0), .int .u64 (word (b.first) 1), .int .u64 (word (b.first) 2), .int .u64 (word (b.first) 3), .int .u64 (word (b.last) 0), .int .u64 (word (b.last) 1), .int .u64 (word (b.last) 2), .int .u64 (word (b.last) 3)] 83)).alloc (.cells #[.bool false, .int .u64 0, .int .u64 0, .int .u64 0, .int .u64 0, .int .u64 0, .int .u64 0, .int .u64 0, .int .u64 0] 83)) w.heap.size a ∧ RchAt (((w.alloc (.cells #[.bool a.null, .int .u64 (word (a.first) 0), .int .u64 (word (a.first) 1), .int .u64 (word (a.first) 2), .int .u64 (word (a.first) 3), .int .u64 (word (a.last) 0), .int .u64 (word (a.last) 1), .int .u64 (word (a.last) 2), .int .u64 (word (a.last) 3)] 83)).alloc (.cells #[.bool b.null, .int .u64 (word (b.first) 0), .int .u64 (word (b.first) 1), .int .u64 (word (b.first) 2), .int .u64 (word (b.first) 3), .int .u64 (word (b.last) 0), .int .u64 (word (b.last) 1), .int .u64 (word (b.last) 2), .int .u64 (word (b.last) 3)] 83)).alloc (.cells #[.bool false, .int .u64 0, .int .u64 0, .int .u64 0, .int .u64 0, .int .u64 0, .int .u64 0, .int .u64 0, .int .u64 0] 83)) (w.heap.size + 1) b ∧ (((w.alloc (.cells #[.bool a.null, .int .u64 (word (a.first) 0), .int .u64 (word (a.first) 1), .int .u64 (word (a.first) 2), .int .u64 (word (a.first) 3), .int .u64 (word (a.last) 0), .int .u64 (word (a.last) 1), .int .u64 (word (a.last) 2), .int .u64 (word (a.last) 3)] 83)).alloc (.cells #[.bool b.null, .int .u64 (word (b.first) 0), .int .u64 (word (b.first) 1), .int .u64 (word (b.first) 2), .int .u64 (word (b.first) 3), .int .u64 (word (b.last) 0), .int .u64 (word (b.last) 1), .int .u64 (word (b.last) 2), .int .u64 (word (b.last) 3)] 83)).alloc (.cells #[.bool false, .int .u64 0, .int .u64 0, .int .u64 0, .int .u64 0, .int .u64 0, .int .u64 0, .int .u64 0, .int .u64 0] 83)).heap[w.heap.size + 2]? = some (.cells #[.bool false, .int .u64 0, .int .u64 0, .int .u64 0, .int .u64 0, .int .u64 0, .int .u64 0, .int .u64 0, .int .u64 0] 83 (0, 0)) from ⟨(Wro.start w a b).one, (Wro.start w a b).two, (Wro.start w a b).out⟩)
  have HMV := hidden (show Mv (fun _ => False) base w (((w.alloc (.cells #[.bool a.null, .int .u64 (word (a.first) 0), .int .u64 (word (a.first) 1), .int .u64 (word (a.first) 2), .int .u64 (word (a.first) 3), .int .u64 (word (a.last) 0), .int .u64 (word (a.last) 1), .int .u64 (word (a.last) 2), .int .u64 (word (a.last) 3)] 83)).alloc (.cells #[.bool b.null, .int .u64 (word (b.first) 0), .int .u64 (word (b.first) 1), .int .u64 (word (b.first) 2), .int .u64 (word (b.first) 3), .int .u64 (word (b.last) 0), .int .u64 (word (b.last) 1), .int .u64 (word (b.last) 2), .int .u64 (word (b.last) 3)] 83)).alloc (.cells #[.bool false, .int .u64 0, .int .u64 0, .int .u64 0, .int .u64 0, .int .u64 0, .int .u64 0, .int .u64 0, .int .u64 0] 83)) from .of_below hba)
  generalize hvr : rchV (catR a b) = vr
  have HVR := hidden (show rchV (⟨true, fAny [a.first, b.first], fAny [a.last, b.last]⟩ : Rch) = vr from by rw [← hvr]; unfold catR; rw [ha, hb]; simp [any_two])
  have HNA := hidden ha
  have HNB := hidden hb
  clear h_ ht hm hF hba hvr ha hb
  unfold rchV
  go_enter Tryz.func101, Tryz.ntmps101
  go_wp2_with fail
  refine HLK.out.mono ?_
  rintro e w2 ⟨rfl, hN2, hm2⟩
  have hw2 : Wct w NB base S (fun p q => E p q || (a.last p && b.first q)) a b w2 := ⟨HS.out.1.mv hm2 (fun h => h), HS.out.2.1.mv hm2 (fun h => h), hm2.at HS.out.2.2 (fun h => h) (by decide), hN2, HMV.out.trans hm2⟩
  have HW2 := hidden hw2
  obtain ⟨⟨c0, c1, c2, c3, c4, c5, c6, c7, c8⟩, d0, d1, d2, d3, d4, d5, d6, d7, d8⟩ := hw2.cells
  rw [HNA.out] at c0
  rw [HNB.out] at d0
  have hl0 : w.heap.size < w2.heap.size := hw2.one.lt
  have hl1 : w.heap.size + 1 < w2.heap.size := hw2.two.lt
  have hl2 : w.heap.size + 2 < w2.heap.size := (Array.getElem?_eq_some_iff.1 hw2.out).1
  have HR3 := hidden (show RchAt (w2.alloc (.cells #[.bool true, .int .u64 (word (a.first) 0), .int .u64 (word (a.first) 1), .int .u64 (word (a.first) 2), .int .u64 (word (a.first) 3), .int .u64 (word (b.last) 0), .int .u64 (word (b.last) 1), .int .u64 (word (b.last) 2), .int .u64 (word (b.last) 3)] 83)) w2.heap.size (⟨true, a.first, b.last⟩ : Rch) from heap_alloc_new w2 _)
  have HW3 := hidden (hw2.alloc (.cells #[.bool true, .int .u64 (word (a.first) 0), .int .u64 (word (a.first) 1), .int .u64 (word (a.first) 2), .int .u64 (word (a.first) 3), .int .u64 (word (b.last) 0), .int .u64 (word (b.last) 1), .int .u64 (word (b.last) 2), .int .u64 (word (b.last) 3)] 83))
  clear hw2 hN2 hm2
  go_wp2_with fail
  have hst := sets_two (w2.alloc (.cells #[.bool true, .int .u64 (word (a.first) 0), .int .u64 (word (a.first) 1), .int .u64 (word (a.first) 2), .int .u64 (word (a.first) 3), .int .u64 (word (b.last) 0), .int .u64 (word (b.last) 1), .int .u64 (word (b.last) 2), .int .u64 (word (b.last) 3)] 83)) a.first b.first 33
  rw [show (w2.alloc (.cells #[.bool true, .int .u64 (word (a.first) 0), .int .u64 (word (a.first) 1), .int .u64 (word (a.first) 2), .int .u64 (word (a.first) 3), .int .u64 (word (b.last) 0), .int .u64 (word (b.last) 1), .int .u64 (word (b.last) 2), .int .u64 (word (b.last) 3)] 83)).heap.size = w2.heap.size + 1 by simp] at hst
  refine (all_calls _ 2 2 [a.first, b.first] _ (by omega) hst).mono ?_
  clear hst
  rintro e w4 ⟨rfl, hb4⟩
  have HR4 := hidden ((HR3.out.below ((Below.refl _ _).alloc (Nat.le_refl _) _)).below hb4)
  have HW4 := hidden ((HW3.out.alloc _).below hb4)
  clear hb4
  dsimp only
  go_wp2_with (refine store_rch1 (B := w2.heap.size) (r := (⟨true, a.first, b.last⟩ : Rch)) (f := fAny [a.first, b.first]) (x := .tmp 33) (y := .tmp 32) rfl rfl rfl rfl HR4.out ?_; intro w5 hr5 hg5; have HR5 := hidden hr5; have hw5 := HW4.out.other HR4.out (by omega) hg5; have HW5 := hidden hw5; obtain ⟨⟨c0, c1, c2, c3, c4, c5, c6, c7, c8⟩, d0, d1, d2, d3, d4, d5, d6, d7, d8⟩ := hw5.cells; rw [HNA.out] at c0; rw [HNB.out] at d0; obtain ⟨e0, e1, e2, e3, e4, e5, e6, e7, e8⟩ := hr5.cells; have hl0 : w.heap.size < w5.heap.size := hw5.one.lt; have hl1 : w.heap.size + 1 < w5.heap.size := hw5.two.lt; have hl7 : w2.heap.size < w5.heap.size := hr5.lt; clear hr5 hg5 hw5 )
  go_wp2_with fail
  have hst := sets_two w5 a.last b.last 33
  refine (all_calls _ 2 2 [a.last, b.last] _ (by omega) hst).mono ?_
  clear hst
  rintro e w6 ⟨rfl, hb6⟩
  have HR6 := hidden ((HR5.out.below ((Below.refl _ _).alloc (Nat.le_refl _) _)).below hb6)
  have HW6 := hidden ((HW5.out.alloc _).below hb6)
  clear hb6
  dsimp only
  go_wp2_with (first | (refine store_row (B := w.heap.size + 2) (cs := #[.bool true, .int .u64 (word (fAny [a.first, b.first]) 0), .int .u64 (word (fAny [a.first, b.first]) 1), .int .u64 (word (fAny [a.first, b.first]) 2), .int .u64 (word (fAny [a.first, b.first]) 3), .int .u64 (word (fAny [a.last, b.last]) 0), .int .u64 (word (fAny [a.last, b.last]) 1), .int .u64 (word (fAny [a.last, b.last]) 2), .int .u64 (word (fAny [a.last, b.last]) 3)]) (old := #[.bool false, .int .u64 0, .int .u64 0, .int .u64 0, .int .u64 0, .int .u64 0, .int .u64 0, .int .u64 0, .int .u64 0]) (t := 83) rfl (ty := 83) (x := .tmp 6) (y := .tmp 43) rfl rfl rfl HW7.out.out 9 (by kernel_rfl) rfl rfl (by kernel_rfl) ?_; intro w9 hw9 hg9; have HL9 := hidden hw9; have HG9 := hidden hg9; have HW9 := hidden HW7.out; clear hw9 hg9) | refine store_rch5 (B := w2.heap.size) (r := (⟨true, fAny [a.first, b.first], b.last⟩ : Rch)) (f := fAny [a.last, b.last]) (x := .tmp 42) (y := .tmp 41) rfl rfl rfl rfl HR6.out ?_; intro w7 hr7 hg7; have HR7 := hidden hr7; have hw7 := HW6.out.other HR6.out (by omega) hg7; have HW7 := hidden hw7; obtain ⟨⟨c0, c1, c2, c3, c4, c5, c6, c7, c8⟩, d0, d1, d2, d3, d4, d5, d6, d7, d8⟩ := hw7.cells; rw [HNA.out] at c0; rw [HNB.out] at d0; obtain ⟨e0, e1, e2, e3, e4, e5, e6, e7, e8⟩ := hr7.cells; have hl0 : w.heap.size < w7.heap.size := hw7.one.lt; have hl1 : w.heap.size + 1 < w7.heap.size := hw7.two.lt; have hl7 : w2.heap.size < w7.heap.size := hr7.lt; clear hr7 hg7 hw7 )
  exact ret_rch (l := (⟨true, fAny [a.first, b.first], fAny [a.last, b.last]⟩ : Rch)) Tryz.results101 rfl rfl HL9.out ⟨by rw [← HVR.out], (HW9.out.net).other HW9.out.out (by decide) (by decide) HG9.out, HW9.out.mv.over (b := w.heap.size + 2) (by omega) HG9.out⟩
set_option maxHeartbeats 8000000 in
set_option maxRecDepth 100000 in
theorem cat_tf {w : World} {NB base : Nat} {S : List (Nat → Bool)} {E : Nat → Nat → Bool} (a b : Rch) (ha : a.null = true) (hb : b.null = false) (h_ : NetAt w NB base S E) (ht : Tab w) (hm : S.length ≤ 256) (hF : ∀ p, p < 256 → a.last p = true → p < S.length) :
    Calls Tryz.prog 101 #[.pointer (some ⟨NB, 0, none⟩), rchV a, rchV b] w fun e w' => e = .returned (rchV (catR a b)) ∧ NetAt w' NB base S (fun p q => E p q || (a.last p && b.first q)) ∧ Mv (fun _ => False) base w w' := by
  have hba := (((Below.refl w.heap.size w).alloc (Nat.le_refl _) (.cells #[.bool a.null, .int .u64 (word (a.first) 0), .int .u64 (word (a.first) 1), .int .u64 (word (a.first) 2), .int .u64 (word (a.first) 3), .int .u64 (word (a.last) 0), .int .u64 (word (a.last) 1), .int .u64 (word (a.last) 2), .int .u64 (word (a.last) 3)] 83)).alloc (by simp) (.cells #[.bool b.null, .int .u64 (word (b.first) 0), .int .u64 (word (b.first) 1), .int .u64 (word (b.first) 2), .int .u64 (word (b.first) 3), .int .u64 (word (b.last) 0), .int .u64 (word (b.last) 1), .int .u64 (word (b.last) 2), .int .u64 (word (b.last) 3)] 83)).alloc (by simp; omega) (.cells #[.bool false, .int .u64 0, .int .u64 0, .int .u64 0, .int .u64 0, .int .u64 0, .int .u64 0, .int .u64 0, .int .u64 0] 83)
  have HLK := hidden (link_calls a.last b.first (h_.below hba) (ht.below hba) hm hF)
  have HS := hidden (show RchAt (((w.alloc (.cells #[.bool a.null, .int .u64 (word (a.first) 0), .int .u64 (word (a.first) 1), .int .u64 (word (a.first) 2), .int .u64 (word (a.first) 3), .int .u64 (word (a.last) 0), .int .u64 (word (a.last) 1), .int .u64 (word (a.last) 2), .int .u64 (word (a.last) 3)] 83)).alloc (.cells #[.bool b.null, .int .u64 (word (b.first) 0), .int .u64 (word (b.first) 1), .int .u64 (word (b.first) 2), .int .u64 (word (b.first) 3), .int .u64 (word (b.last) 0), .int .u64 (word (b.last) 1), .int .u64 (word (b.last) 2), .int .u64 (word (b.last) 3)] 83)).alloc (.cells #[.bool false, .int .u64 0, .int .u64 0, .int .u64 0, .int .u64 0, .int .u64 0, .int .u64 0, .int .u64 0, .int .u64 0] 83)) w.heap.size a ∧ RchAt (((w.alloc (.cells #[.bool a.null, .int .u64 (word (a.first) 0), .int .u64 (word (a.first) 1), .int .u64 (word (a.first) 2), .int .u64 (word (a.first) 3), .int .u64 (word (a.last) 0), .int .u64 (word (a.last) 1), .int .u64 (word (a.last) 2), .int .u64 (word (a.last) 3)] 83)).alloc (.cells #[.bool b.null, .int .u64 (word (b.first) 0), .int .u64 (word (b.first) 1), .int .u64 (word (b.first) 2), .int .u64 (word (b.first) 3), .int .u64 (word (b.last) 0), .int .u64 (word (b.last) 1), .int .u64 (word (b.last) 2), .int .u64 (word (b.last) 3)] 83)).alloc (.cells #[.bool false, .int .u64 0, .int .u64 0, .int .u64 0, .int .u64 0, .int .u64 0, .int .u64 0, .int .u64 0, .int .u64 0] 83)) (w.heap.size + 1) b ∧ (((w.alloc (.cells #[.bool a.null, .int .u64 (word (a.first) 0), .int .u64 (word (a.first) 1), .int .u64 (word (a.first) 2), .int .u64 (word (a.first) 3), .int .u64 (word (a.last) 0), .int .u64 (word (a.last) 1), .int .u64 (word (a.last) 2), .int .u64 (word (a.last) 3)] 83)).alloc (.cells #[.bool b.null, .int .u64 (word (b.first) 0), .int .u64 (word (b.first) 1), .int .u64 (word (b.first) 2), .int .u64 (word (b.first) 3), .int .u64 (word (b.last) 0), .int .u64 (word (b.last) 1), .int .u64 (word (b.last) 2), .int .u64 (word (b.last) 3)] 83)).alloc (.cells #[.bool false, .int .u64 0, .int .u64 0, .int .u64 0, .int .u64 0, .int .u64 0, .int .u64 0, .int .u64 0, .int .u64 0] 83)).heap[w.heap.size + 2]? = some (.cells #[.bool false, .int .u64 0, .int .u64 0, .int .u64 0, .int .u64 0, .int .u64 0, .int .u64 0, .int .u64 0, .int .u64 0] 83 (0, 0)) from ⟨(Wro.start w a b).one, (Wro.start w a b).two, (Wro.start w a b).out⟩)
  have HMV := hidden (show Mv (fun _ => False) base w (((w.alloc (.cells #[.bool a.null, .int .u64 (word (a.first) 0), .int .u64 (word (a.first) 1), .int .u64 (word (a.first) 2), .int .u64 (word (a.first) 3), .int .u64 (word (a.last) 0), .int .u64 (word (a.last) 1), .int .u64 (word (a.last) 2), .int .u64 (word (a.last) 3)] 83)).alloc (.cells #[.bool b.null, .int .u64 (word (b.first) 0), .int .u64 (word (b.first) 1), .int .u64 (word (b.first) 2), .int .u64 (word (b.first) 3), .int .u64 (word (b.last) 0), .int .u64 (word (b.last) 1), .int .u64 (word (b.last) 2), .int .u64 (word (b.last) 3)] 83)).alloc (.cells #[.bool false, .int .u64 0, .int .u64 0, .int .u64 0, .int .u64 0, .int .u64 0, .int .u64 0, .int .u64 0, .int .u64 0] 83)) from .of_below hba)
  generalize hvr : rchV (catR a b) = vr
  have HVR := hidden (show rchV (⟨false, fAny [a.first, b.first], b.last⟩ : Rch) = vr from by rw [← hvr]; unfold catR; rw [ha, hb]; simp [any_two])
  have HNA := hidden ha
  have HNB := hidden hb
  clear h_ ht hm hF hba hvr ha hb
  unfold rchV
  go_enter Tryz.func101, Tryz.ntmps101
  go_wp2_with fail
  refine HLK.out.mono ?_
  rintro e w2 ⟨rfl, hN2, hm2⟩
  have hw2 : Wct w NB base S (fun p q => E p q || (a.last p && b.first q)) a b w2 := ⟨HS.out.1.mv hm2 (fun h => h), HS.out.2.1.mv hm2 (fun h => h), hm2.at HS.out.2.2 (fun h => h) (by decide), hN2, HMV.out.trans hm2⟩
  have HW2 := hidden hw2
  obtain ⟨⟨c0, c1, c2, c3, c4, c5, c6, c7, c8⟩, d0, d1, d2, d3, d4, d5, d6, d7, d8⟩ := hw2.cells
  rw [HNA.out] at c0
  rw [HNB.out] at d0
  have hl0 : w.heap.size < w2.heap.size := hw2.one.lt
  have hl1 : w.heap.size + 1 < w2.heap.size := hw2.two.lt
  have hl2 : w.heap.size + 2 < w2.heap.size := (Array.getElem?_eq_some_iff.1 hw2.out).1
  have HR3 := hidden (show RchAt (w2.alloc (.cells #[.bool false, .int .u64 (word (a.first) 0), .int .u64 (word (a.first) 1), .int .u64 (word (a.first) 2), .int .u64 (word (a.first) 3), .int .u64 (word (b.last) 0), .int .u64 (word (b.last) 1), .int .u64 (word (b.last) 2), .int .u64 (word (b.last) 3)] 83)) w2.heap.size (⟨false, a.first, b.last⟩ : Rch) from heap_alloc_new w2 _)
  have HW3 := hidden (hw2.alloc (.cells #[.bool false, .int .u64 (word (a.first) 0), .int .u64 (word (a.first) 1), .int .u64 (word (a.first) 2), .int .u64 (word (a.first) 3), .int .u64 (word (b.last) 0), .int .u64 (word (b.last) 1), .int .u64 (word (b.last) 2), .int .u64 (word (b.last) 3)] 83))
  clear hw2 hN2 hm2
  go_wp2_with fail
  have hst := sets_two (w2.alloc (.cells #[.bool false, .int .u64 (word (a.first) 0), .int .u64 (word (a.first) 1), .int .u64 (word (a.first) 2), .int .u64 (word (a.first) 3), .int .u64 (word (b.last) 0), .int .u64 (word (b.last) 1), .int .u64 (word (b.last) 2), .int .u64 (word (b.last) 3)] 83)) a.first b.first 33
  rw [show (w2.alloc (.cells #[.bool false, .int .u64 (word (a.first) 0), .int .u64 (word (a.first) 1), .int .u64 (word (a.first) 2), .int .u64 (word (a.first) 3), .int .u64 (word (b.last) 0), .int .u64 (word (b.last) 1), .int .u64 (word (b.last) 2), .int .u64 (word (b.last) 3)] 83)).heap.size = w2.heap.size + 1 by simp] at hst
  refine (all_calls _ 2 2 [a.first, b.first] _ (by omega) hst).mono ?_
  clear hst
  rintro e w4 ⟨rfl, hb4⟩
  have HR4 := hidden ((HR3.out.below ((Below.refl _ _).alloc (Nat.le_refl _) _)).below hb4)
  have HW4 := hidden ((HW3.out.alloc _).below hb4)
  clear hb4
  dsimp only
  go_wp2_with (first | (refine store_row (B := w.heap.size + 2) (cs := #[.bool false, .int .u64 (word (fAny [a.first, b.first]) 0), .int .u64 (word (fAny [a.first, b.first]) 1), .int .u64 (word (fAny [a.first, b.first]) 2), .int .u64 (word (fAny [a.first, b.first]) 3), .int .u64 (word (b.last) 0), .int .u64 (word (b.last) 1), .int .u64 (word (b.last) 2), .int .u64 (word (b.last) 3)]) (old := #[.bool false, .int .u64 0, .int .u64 0, .int .u64 0, .int .u64 0, .int .u64 0, .int .u64 0, .int .u64 0, .int .u64 0]) (t := 83) rfl (ty := 83) (x := .tmp 6) (y := .tmp 43) rfl rfl rfl HW5.out.out 9 (by kernel_rfl) rfl rfl (by kernel_rfl) ?_; intro w9 hw9 hg9; have HL9 := hidden hw9; have HG9 := hidden hg9; have HW9 := hidden HW5.out; clear hw9 hg9) | refine store_rch1 (B := w2.heap.size) (r := (⟨false, a.first, b.last⟩ : Rch)) (f := fAny [a.first, b.first]) (x := .tmp 33) (y := .tmp 32) rfl rfl rfl rfl HR4.out ?_; intro w5 hr5 hg5; have HR5 := hidden hr5; have hw5 := HW4.out.other HR4.out (by omega) hg5; have HW5 := hidden hw5; obtain ⟨⟨c0, c1, c2, c3, c4, c5, c6, c7, c8⟩, d0, d1, d2, d3, d4, d5, d6, d7, d8⟩ := hw5.cells; rw [HNA.out] at c0; rw [HNB.out] at d0; obtain ⟨e0, e1, e2, e3, e4, e5, e6, e7, e8⟩ := hr5.cells; have hl0 : w.heap.size < w5.heap.size := hw5.one.lt; have hl1 : w.heap.size + 1 < w5.heap.size := hw5.two.lt; have hl7 : w2.heap.size < w5.heap.size := hr5.lt; clear hr5 hg5 hw5 )
  exact ret_rch (l := (⟨false, fAny [a.first, b.first], b.last⟩ : Rch)) Tryz.results101 rfl rfl HL9.out ⟨by rw [← HVR.out], (HW9.out.net).other HW9.out.out (by decide) (by decide) HG9.out, HW9.out.mv.over (b := w.heap.size + 2) (by omega) HG9.out⟩
set_option maxHeartbeats 8000000 in
set_option maxRecDepth 100000 in
theorem cat_ft {w : World} {NB base : Nat} {S : List (Nat → Bool)} {E : Nat → Nat → Bool} (a b : Rch) (ha : a.null = false) (hb : b.null = true) (h_ : NetAt w NB base S E) (ht : Tab w) (hm : S.length ≤ 256) (hF : ∀ p, p < 256 → a.last p = true → p < S.length) :
    Calls Tryz.prog 101 #[.pointer (some ⟨NB, 0, none⟩), rchV a, rchV b] w fun e w' => e = .returned (rchV (catR a b)) ∧ NetAt w' NB base S (fun p q => E p q || (a.last p && b.first q)) ∧ Mv (fun _ => False) base w w' := by
  have hba := (((Below.refl w.heap.size w).alloc (Nat.le_refl _) (.cells #[.bool a.null, .int .u64 (word (a.first) 0), .int .u64 (word (a.first) 1), .int .u64 (word (a.first) 2), .int .u64 (word (a.first) 3), .int .u64 (word (a.last) 0), .int .u64 (word (a.last) 1), .int .u64 (word (a.last) 2), .int .u64 (word (a.last) 3)] 83)).alloc (by simp) (.cells #[.bool b.null, .int .u64 (word (b.first) 0), .int .u64 (word (b.first) 1), .int .u64 (word (b.first) 2), .int .u64 (word (b.first) 3), .int .u64 (word (b.last) 0), .int .u64 (word (b.last) 1), .int .u64 (word (b.last) 2), .int .u64 (word (b.last) 3)] 83)).alloc (by simp; omega) (.cells #[.bool false, .int .u64 0, .int .u64 0, .int .u64 0, .int .u64 0, .int .u64 0, .int .u64 0, .int .u64 0, .int .u64 0] 83)
  have HLK := hidden (link_calls a.last b.first (h_.below hba) (ht.below hba) hm hF)
  have HS := hidden (show RchAt (((w.alloc (.cells #[.bool a.null, .int .u64 (word (a.first) 0), .int .u64 (word (a.first) 1), .int .u64 (word (a.first) 2), .int .u64 (word (a.first) 3), .int .u64 (word (a.last) 0), .int .u64 (word (a.last) 1), .int .u64 (word (a.last) 2), .int .u64 (word (a.last) 3)] 83)).alloc (.cells #[.bool b.null, .int .u64 (word (b.first) 0), .int .u64 (word (b.first) 1), .int .u64 (word (b.first) 2), .int .u64 (word (b.first) 3), .int .u64 (word (b.last) 0), .int .u64 (word (b.last) 1), .int .u64 (word (b.last) 2), .int .u64 (word (b.last) 3)] 83)).alloc (.cells #[.bool false, .int .u64 0, .int .u64 0, .int .u64 0, .int .u64 0, .int .u64 0, .int .u64 0, .int .u64 0, .int .u64 0] 83)) w.heap.size a ∧ RchAt (((w.alloc (.cells #[.bool a.null, .int .u64 (word (a.first) 0), .int .u64 (word (a.first) 1), .int .u64 (word (a.first) 2), .int .u64 (word (a.first) 3), .int .u64 (word (a.last) 0), .int .u64 (word (a.last) 1), .int .u64 (word (a.last) 2), .int .u64 (word (a.last) 3)] 83)).alloc (.cells #[.bool b.null, .int .u64 (word (b.first) 0), .int .u64 (word (b.first) 1), .int .u64 (word (b.first) 2), .int .u64 (word (b.first) 3), .int .u64 (word (b.last) 0), .int .u64 (word (b.last) 1), .int .u64 (word (b.last) 2), .int .u64 (word (b.last) 3)] 83)).alloc (.cells #[.bool false, .int .u64 0, .int .u64 0, .int .u64 0, .int .u64 0, .int .u64 0, .int .u64 0, .int .u64 0, .int .u64 0] 83)) (w.heap.size + 1) b ∧ (((w.alloc (.cells #[.bool a.null, .int .u64 (word (a.first) 0), .int .u64 (word (a.first) 1), .int .u64 (word (a.first) 2), .int .u64 (word (a.first) 3), .int .u64 (word (a.last) 0), .int .u64 (word (a.last) 1), .int .u64 (word (a.last) 2), .int .u64 (word (a.last) 3)] 83)).alloc (.cells #[.bool b.null, .int .u64 (word (b.first) 0), .int .u64 (word (b.first) 1), .int .u64 (word (b.first) 2), .int .u64 (word (b.first) 3), .int .u64 (word (b.last) 0), .int .u64 (word (b.last) 1), .int .u64 (word (b.last) 2), .int .u64 (word (b.last) 3)] 83)).alloc (.cells #[.bool false, .int .u64 0, .int .u64 0, .int .u64 0, .int .u64 0, .int .u64 0, .int .u64 0, .int .u64 0, .int .u64 0] 83)).heap[w.heap.size + 2]? = some (.cells #[.bool false, .int .u64 0, .int .u64 0, .int .u64 0, .int .u64 0, .int .u64 0, .int .u64 0, .int .u64 0, .int .u64 0] 83 (0, 0)) from ⟨(Wro.start w a b).one, (Wro.start w a b).two, (Wro.start w a b).out⟩)
  have HMV := hidden (show Mv (fun _ => False) base w (((w.alloc (.cells #[.bool a.null, .int .u64 (word (a.first) 0), .int .u64 (word (a.first) 1), .int .u64 (word (a.first) 2), .int .u64 (word (a.first) 3), .int .u64 (word (a.last) 0), .int .u64 (word (a.last) 1), .int .u64 (word (a.last) 2), .int .u64 (word (a.last) 3)] 83)).alloc (.cells #[.bool b.null, .int .u64 (word (b.first) 0), .int .u64 (word (b.first) 1), .int .u64 (word (b.first) 2), .int .u64 (word (b.first) 3), .int .u64 (word (b.last) 0), .int .u64 (word (b.last) 1), .int .u64 (word (b.last) 2), .int .u64 (word (b.last) 3)] 83)).alloc (.cells #[.bool false, .int .u64 0, .int .u64 0, .int .u64 0, .int .u64 0, .int .u64 0, .int .u64 0, .int .u64 0, .int .u64 0] 83)) from .of_below hba)
  generalize hvr : rchV (catR a b) = vr
  have HVR := hidden (show rchV (⟨false, a.first, fAny [a.last, b.last]⟩ : Rch) = vr from by rw [← hvr]; unfold catR; rw [ha, hb]; simp [any_two])
  have HNA := hidden ha
  have HNB := hidden hb
  clear h_ ht hm hF hba hvr ha hb
  unfold rchV
  go_enter Tryz.func101, Tryz.ntmps101
  go_wp2_with fail
  refine HLK.out.mono ?_
  rintro e w2 ⟨rfl, hN2, hm2⟩
  have hw2 : Wct w NB base S (fun p q => E p q || (a.last p && b.first q)) a b w2 := ⟨HS.out.1.mv hm2 (fun h => h), HS.out.2.1.mv hm2 (fun h => h), hm2.at HS.out.2.2 (fun h => h) (by decide), hN2, HMV.out.trans hm2⟩
  have HW2 := hidden hw2
  obtain ⟨⟨c0, c1, c2, c3, c4, c5, c6, c7, c8⟩, d0, d1, d2, d3, d4, d5, d6, d7, d8⟩ := hw2.cells
  rw [HNA.out] at c0
  rw [HNB.out] at d0
  have hl0 : w.heap.size < w2.heap.size := hw2.one.lt
  have hl1 : w.heap.size + 1 < w2.heap.size := hw2.two.lt
  have hl2 : w.heap.size + 2 < w2.heap.size := (Array.getElem?_eq_some_iff.1 hw2.out).1
  have HR3 := hidden (show RchAt (w2.alloc (.cells #[.bool false, .int .u64 (word (a.first) 0), .int .u64 (word (a.first) 1), .int .u64 (word (a.first) 2), .int .u64 (word (a.first) 3), .int .u64 (word (b.last) 0), .int .u64 (word (b.last) 1), .int .u64 (word (b.last) 2), .int .u64 (word (b.last) 3)] 83)) w2.heap.size (⟨false, a.first, b.last⟩ : Rch) from heap_alloc_new w2 _)
  have HW3 := hidden (hw2.alloc (.cells #[.bool false, .int .u64 (word (a.first) 0), .int .u64 (word (a.first) 1), .int .u64 (word (a.first) 2), .int .u64 (word (a.first) 3), .int .u64 (word (b.last) 0), .int .u64 (word (b.last) 1), .int .u64 (word (b.last) 2), .int .u64 (word (b.last) 3)] 83))
  clear hw2 hN2 hm2
  go_wp2_with fail
  have hst := sets_two (w2.alloc (.cells #[.bool false, .int .u64 (word (a.first) 0), .int .u64 (word (a.first) 1), .int .u64 (word (a.first) 2), .int .u64 (word (a.first) 3), .int .u64 (word (b.last) 0), .int .u64 (word (b.last) 1), .int .u64 (word (b.last) 2), .int .u64 (word (b.last) 3)] 83)) a.last b.last 33
  rw [show (w2.alloc (.cells #[.bool false, .int .u64 (word (a.first) 0), .int .u64 (word (a.first) 1), .int .u64 (word (a.first) 2), .int .u64 (word (a.first) 3), .int .u64 (word (b.last) 0), .int .u64 (word (b.last) 1), .int .u64 (word (b.last) 2), .int .u64 (word (b.last) 3)] 83)).heap.size = w2.heap.size + 1 by simp] at hst
  refine (all_calls _ 2 2 [a.last, b.last] _ (by omega) hst).mono ?_
  clear hst
  rintro e w4 ⟨rfl, hb4⟩
  have HR4 := hidden ((HR3.out.below ((Below.refl _ _).alloc (Nat.le_refl _) _)).below hb4)
  have HW4 := hidden ((HW3.out.alloc _).below hb4)
  clear hb4
  dsimp only
  go_wp2_with (first | (refine store_row (B := w.heap.size + 2) (cs := #[.bool false, .int .u64 (word (a.first) 0), .int .u64 (word (a.first) 1), .int .u64 (word (a.first) 2), .int .u64 (word (a.first) 3), .int .u64 (word (fAny [a.last, b.last]) 0), .int .u64 (word (fAny [a.last, b.last]) 1), .int .u64 (word (fAny [a.last, b.last]) 2), .int .u64 (word (fAny [a.last, b.last]) 3)]) (old := #[.bool false, .int .u64 0, .int .u64 0, .int .u64 0, .int .u64 0, .int .u64 0, .int .u64 0, .int .u64 0, .int .u64 0]) (t := 83) rfl (ty := 83) (x := .tmp 6) (y := .tmp 43) rfl rfl rfl HW5.out.out 9 (by kernel_rfl) rfl rfl (by kernel_rfl) ?_; intro w9 hw9 hg9; have HL9 := hidden hw9; have HG9 := hidden hg9; have HW9 := hidden HW5.out; clear hw9 hg9) | refine store_rch5 (B := w2.heap.size) (r := (⟨false, a.first, b.last⟩ : Rch)) (f := fAny [a.last, b.last]) (x := .tmp 42) (y := .tmp 41) rfl rfl rfl rfl HR4.out ?_; intro w5 hr5 hg5; have HR5 := hidden hr5; have hw5 := HW4.out.other HR4.out (by omega) hg5; have HW5 := hidden hw5; obtain ⟨⟨c0, c1, c2, c3, c4, c5, c6, c7, c8⟩, d0, d1, d2, d3, d4, d5, d6, d7, d8⟩ := hw5.cells; rw [HNA.out] at c0; rw [HNB.out] at d0; obtain ⟨e0, e1, e2, e3, e4, e5, e6, e7, e8⟩ := hr5.cells; have hl0 : w.heap.size < w5.heap.size := hw5.one.lt; have hl1 : w.heap.size + 1 < w5.heap.size := hw5.two.lt; have hl7 : w2.heap.size < w5.heap.size := hr5.lt; clear hr5 hg5 hw5 )
  exact ret_rch (l := (⟨false, a.first, fAny [a.last, b.last]⟩ : Rch)) Tryz.results101 rfl rfl HL9.out ⟨by rw [← HVR.out], (HW9.out.net).other HW9.out.out (by decide) (by decide) HG9.out, HW9.out.mv.over (b := w.heap.size + 2) (by omega) HG9.out⟩
set_option maxHeartbeats 8000000 in
set_option maxRecDepth 100000 in
theorem cat_ff {w : World} {NB base : Nat} {S : List (Nat → Bool)} {E : Nat → Nat → Bool} (a b : Rch) (ha : a.null = false) (hb : b.null = false) (h_ : NetAt w NB base S E) (ht : Tab w) (hm : S.length ≤ 256) (hF : ∀ p, p < 256 → a.last p = true → p < S.length) :
    Calls Tryz.prog 101 #[.pointer (some ⟨NB, 0, none⟩), rchV a, rchV b] w fun e w' => e = .returned (rchV (catR a b)) ∧ NetAt w' NB base S (fun p q => E p q || (a.last p && b.first q)) ∧ Mv (fun _ => False) base w w' := by
  have hba := (((Below.refl w.heap.size w).alloc (Nat.le_refl _) (.cells #[.bool a.null, .int .u64 (word (a.first) 0), .int .u64 (word (a.first) 1), .int .u64 (word (a.first) 2), .int .u64 (word (a.first) 3), .int .u64 (word (a.last) 0), .int .u64 (word (a.last) 1), .int .u64 (word (a.last) 2), .int .u64 (word (a.last) 3)] 83)).alloc (by simp) (.cells #[.bool b.null, .int .u64 (word (b.first) 0), .int .u64 (word (b.first) 1), .int .u64 (word (b.first) 2), .int .u64 (word (b.first) 3), .int .u64 (word (b.last) 0), .int .u64 (word (b.last) 1), .int .u64 (word (b.last) 2), .int .u64 (word (b.last) 3)] 83)).alloc (by simp; omega) (.cells #[.bool false, .int .u64 0, .int .u64 0, .int .u64 0, .int .u64 0, .int .u64 0, .int .u64 0, .int .u64 0, .int .u64 0] 83)
  have HLK := hidden (link_calls a.last b.first (h_.below hba) (ht.below hba) hm hF)
  have HS := hidden (show RchAt (((w.alloc (.cells #[.bool a.null, .int .u64 (word (a.first) 0), .int .u64 (word (a.first) 1), .int .u64 (word (a.first) 2), .int .u64 (word (a.first) 3), .int .u64 (word (a.last) 0), .int .u64 (word (a.last) 1), .int .u64 (word (a.last) 2), .int .u64 (word (a.last) 3)] 83)).alloc (.cells #[.bool b.null, .int .u64 (word (b.first) 0), .int .u64 (word (b.first) 1), .int .u64 (word (b.first) 2), .int .u64 (word (b.first) 3), .int .u64 (word (b.last) 0), .int .u64 (word (b.last) 1), .int .u64 (word (b.last) 2), .int .u64 (word (b.last) 3)] 83)).alloc (.cells #[.bool false, .int .u64 0, .int .u64 0, .int .u64 0, .int .u64 0, .int .u64 0, .int .u64 0, .int .u64 0, .int .u64 0] 83)) w.heap.size a ∧ RchAt (((w.alloc (.cells #[.bool a.null, .int .u64 (word (a.first) 0), .int .u64 (word (a.first) 1), .int .u64 (word (a.first) 2), .int .u64 (word (a.first) 3), .int .u64 (word (a.last) 0), .int .u64 (word (a.last) 1), .int .u64 (word (a.last) 2), .int .u64 (word (a.last) 3)] 83)).alloc (.cells #[.bool b.null, .int .u64 (word (b.first) 0), .int .u64 (word (b.first) 1), .int .u64 (word (b.first) 2), .int .u64 (word (b.first) 3), .int .u64 (word (b.last) 0), .int .u64 (word (b.last) 1), .int .u64 (word (b.last) 2), .int .u64 (word (b.last) 3)] 83)).alloc (.cells #[.bool false, .int .u64 0, .int .u64 0, .int .u64 0, .int .u64 0, .int .u64 0, .int .u64 0, .int .u64 0, .int .u64 0] 83)) (w.heap.size + 1) b ∧ (((w.alloc (.cells #[.bool a.null, .int .u64 (word (a.first) 0), .int .u64 (word (a.first) 1), .int .u64 (word (a.first) 2), .int .u64 (word (a.first) 3), .int .u64 (word (a.last) 0), .int .u64 (word (a.last) 1), .int .u64 (word (a.last) 2), .int .u64 (word (a.last) 3)] 83)).alloc (.cells #[.bool b.null, .int .u64 (word (b.first) 0), .int .u64 (word (b.first) 1), .int .u64 (word (b.first) 2), .int .u64 (word (b.first) 3), .int .u64 (word (b.last) 0), .int .u64 (word (b.last) 1), .int .u64 (word (b.last) 2), .int .u64 (word (b.last) 3)] 83)).alloc (.cells #[.bool false, .int .u64 0, .int .u64 0, .int .u64 0, .int .u64 0, .int .u64 0, .int .u64 0, .int .u64 0, .int .u64 0] 83)).heap[w.heap.size + 2]? = some (.cells #[.bool false, .int .u64 0, .int .u64 0, .int .u64 0, .int .u64 0, .int .u64 0, .int .u64 0, .int .u64 0, .int .u64 0] 83 (0, 0)) from ⟨(Wro.start w a b).one, (Wro.start w a b).two, (Wro.start w a b).out⟩)
  have HMV := hidden (show Mv (fun _ => False) base w (((w.alloc (.cells #[.bool a.null, .int .u64 (word (a.first) 0), .int .u64 (word (a.first) 1), .int .u64 (word (a.first) 2), .int .u64 (word (a.first) 3), .int .u64 (word (a.last) 0), .int .u64 (word (a.last) 1), .int .u64 (word (a.last) 2), .int .u64 (word (a.last) 3)] 83)).alloc (.cells #[.bool b.null, .int .u64 (word (b.first) 0), .int .u64 (word (b.first) 1), .int .u64 (word (b.first) 2), .int .u64 (word (b.first) 3), .int .u64 (word (b.last) 0), .int .u64 (word (b.last) 1), .int .u64 (word (b.last) 2), .int .u64 (word (b.last) 3)] 83)).alloc (.cells #[.bool false, .int .u64 0, .int .u64 0, .int .u64 0, .int .u64 0, .int .u64 0, .int .u64 0, .int .u64 0, .int .u64 0] 83)) from .of_below hba)
  generalize hvr : rchV (catR a b) = vr
  have HVR := hidden (show rchV (⟨false, a.first, b.last⟩ : Rch) = vr from by rw [← hvr]; unfold catR; rw [ha, hb]; simp)
  have HNA := hidden ha
  have HNB := hidden hb
  clear h_ ht hm hF hba hvr ha hb
  unfold rchV
  go_enter Tryz.func101, Tryz.ntmps101
  go_wp2_with fail
  refine HLK.out.mono ?_
  rintro e w2 ⟨rfl, hN2, hm2⟩
  have hw2 : Wct w NB base S (fun p q => E p q || (a.last p && b.first q)) a b w2 := ⟨HS.out.1.mv hm2 (fun h => h), HS.out.2.1.mv hm2 (fun h => h), hm2.at HS.out.2.2 (fun h => h) (by decide), hN2, HMV.out.trans hm2⟩
  have HW2 := hidden hw2
  obtain ⟨⟨c0, c1, c2, c3, c4, c5, c6, c7, c8⟩, d0, d1, d2, d3, d4, d5, d6, d7, d8⟩ := hw2.cells
  rw [HNA.out] at c0
  rw [HNB.out] at d0
  have hl0 : w.heap.size < w2.heap.size := hw2.one.lt
  have hl1 : w.heap.size + 1 < w2.heap.size := hw2.two.lt
  have hl2 : w.heap.size + 2 < w2.heap.size := (Array.getElem?_eq_some_iff.1 hw2.out).1
  have HR3 := hidden (show RchAt (w2.alloc (.cells #[.bool false, .int .u64 (word (a.first) 0), .int .u64 (word (a.first) 1), .int .u64 (word (a.first) 2), .int .u64 (word (a.first) 3), .int .u64 (word (b.last) 0), .int .u64 (word (b.last) 1), .int .u64 (word (b.last) 2), .int .u64 (word (b.last) 3)] 83)) w2.heap.size (⟨false, a.first, b.last⟩ : Rch) from heap_alloc_new w2 _)
  have HW3 := hidden (hw2.alloc (.cells #[.bool false, .int .u64 (word (a.first) 0), .int .u64 (word (a.first) 1), .int .u64 (word (a.first) 2), .int .u64 (word (a.first) 3), .int .u64 (word (b.last) 0), .int .u64 (word (b.last) 1), .int .u64 (word (b.last) 2), .int .u64 (word (b.last) 3)] 83))
  clear hw2 hN2 hm2
  dsimp only
  go_wp2_with (refine store_row (B := w.heap.size + 2) (cs := #[.bool false, .int .u64 (word (a.first) 0), .int .u64 (word (a.first) 1), .int .u64 (word (a.first) 2), .int .u64 (word (a.first) 3), .int .u64 (word (b.last) 0), .int .u64 (word (b.last) 1), .int .u64 (word (b.last) 2), .int .u64 (word (b.last) 3)]) (old := #[.bool false, .int .u64 0, .int .u64 0, .int .u64 0, .int .u64 0, .int .u64 0, .int .u64 0, .int .u64 0, .int .u64 0]) (t := 83) rfl (ty := 83) (x := .tmp 6) (y := .tmp 43) rfl rfl rfl HW3.out.out 9 (by kernel_rfl) rfl rfl (by kernel_rfl) ?_; intro w9 hw9 hg9; have HL9 := hidden hw9; have HG9 := hidden hg9; have HW9 := hidden HW3.out; clear hw9 hg9)
  exact ret_rch (l := (⟨false, a.first, b.last⟩ : Rch)) Tryz.results101 rfl rfl HL9.out ⟨by rw [← HVR.out], (HW9.out.net).other HW9.out.out (by decide) (by decide) HG9.out, HW9.out.mv.over (b := w.heap.size + 2) (by omega) HG9.out⟩
theorem cat_calls {w : World} {NB base : Nat} {S : List (Nat → Bool)} {E : Nat → Nat → Bool} (a b : Rch) (h_ : NetAt w NB base S E) (ht : Tab w) (hm : S.length ≤ 256) (hF : ∀ p, p < 256 → a.last p = true → p < S.length) :
    Calls Tryz.prog 101 #[.pointer (some ⟨NB, 0, none⟩), rchV a, rchV b] w fun e w' => e = .returned (rchV (catR a b)) ∧ NetAt w' NB base S (fun p q => E p q || (a.last p && b.first q)) ∧ Mv (fun _ => False) base w w' := by
  cases ha : a.null <;> cases hb : b.null
  · exact cat_ff a b ha hb h_ ht hm hF
  · exact cat_ft a b ha hb h_ ht hm hF
  · exact cat_tf a b ha hb h_ ht hm hF
  · exact cat_tt a b ha hb h_ ht hm hF
end Go.Proofs.YthkboclooplpeaaGreatDoor

/- The stack of reaches, as evaluate keeps it: nine cells each; take. -/
namespace Go.Proofs.YthkboclooplpeaaGreatDoor
open Go.RowKit Go.Lib Go.Joins
attribute [local go_sem] evalR_tmp evalR_const evalR_global evalR_func
set_option linter.unusedSimpArgs false in
theorem RchAt.stored {w : World} {B : Nat} {k : Rch} (h : RchAt w B k) (l : Rch) : RchAt (((((((((w.setCell ⟨B, 0, none⟩ (.bool l.null)).setCell ⟨B, 1, none⟩ (.int .u64 (word l.first 0))).setCell ⟨B, 2, none⟩ (.int .u64 (word l.first 1))).setCell ⟨B, 3, none⟩ (.int .u64 (word l.first 2))).setCell ⟨B, 4, none⟩ (.int .u64 (word l.first 3))).setCell ⟨B, 5, none⟩ (.int .u64 (word l.last 0))).setCell ⟨B, 6, none⟩ (.int .u64 (word l.last 1))).setCell ⟨B, 7, none⟩ (.int .u64 (word l.last 2))).setCell ⟨B, 8, none⟩ (.int .u64 (word l.last 3))) B l := by
  have h0 : w.heap[B]? = some (.cells #[.bool k.null, .int .u64 (word (k.first) 0), .int .u64 (word (k.first) 1), .int .u64 (word (k.first) 2), .int .u64 (word (k.first) 3), .int .u64 (word (k.last) 0), .int .u64 (word (k.last) 1), .int .u64 (word (k.last) 2), .int .u64 (word (k.last) 3)] 83 (0, 0)) := h
  have h1 := heap_setCell_same _ B 0 _ _ (.bool l.null) h0
  simp only [List.setIfInBounds_toArray, List.set_cons_zero, List.set_cons_succ] at h1
  have h2 := heap_setCell_same _ B 1 _ _ (.int .u64 (word l.first 0)) h1
  simp only [List.setIfInBounds_toArray, List.set_cons_zero, List.set_cons_succ] at h2
  have h3 := heap_setCell_same _ B 2 _ _ (.int .u64 (word l.first 1)) h2
  simp only [List.setIfInBounds_toArray, List.set_cons_zero, List.set_cons_succ] at h3
  have h4 := heap_setCell_same _ B 3 _ _ (.int .u64 (word l.first 2)) h3
  simp only [List.setIfInBounds_toArray, List.set_cons_zero, List.set_cons_succ] at h4
  have h5 := heap_setCell_same _ B 4 _ _ (.int .u64 (word l.first 3)) h4
  simp only [List.setIfInBounds_toArray, List.set_cons_zero, List.set_cons_succ] at h5
  have h6 := heap_setCell_same _ B 5 _ _ (.int .u64 (word l.last 0)) h5
  simp only [List.setIfInBounds_toArray, List.set_cons_zero, List.set_cons_succ] at h6
  have h7 := heap_setCell_same _ B 6 _ _ (.int .u64 (word l.last 1)) h6
  simp only [List.setIfInBounds_toArray, List.set_cons_zero, List.set_cons_succ] at h7
  have h8 := heap_setCell_same _ B 7 _ _ (.int .u64 (word l.last 2)) h7
  simp only [List.setIfInBounds_toArray, List.set_cons_zero, List.set_cons_succ] at h8
  have h9 := heap_setCell_same _ B 8 _ _ (.int .u64 (word l.last 3)) h8
  simp only [List.setIfInBounds_toArray, List.set_cons_zero, List.set_cons_succ] at h9
  exact h9
theorem rch_gb (w : World) {b : Nat} (l : Rch) : w.grownBy (((((((((w.setCell ⟨b, 0, none⟩ (.bool l.null)).setCell ⟨b, 1, none⟩ (.int .u64 (word l.first 0))).setCell ⟨b, 2, none⟩ (.int .u64 (word l.first 1))).setCell ⟨b, 3, none⟩ (.int .u64 (word l.first 2))).setCell ⟨b, 4, none⟩ (.int .u64 (word l.first 3))).setCell ⟨b, 5, none⟩ (.int .u64 (word l.last 0))).setCell ⟨b, 6, none⟩ (.int .u64 (word l.last 1))).setCell ⟨b, 7, none⟩ (.int .u64 (word l.last 2))).setCell ⟨b, 8, none⟩ (.int .u64 (word l.last 3))) (some b) := gb_sets (gb_sets (gb_sets (gb_sets (gb_sets (gb_sets (gb_sets (gb_sets (gb_set b 0 _) _ _) _ _) _ _) _ _) _ _) _ _) _ _) _ _
def rchC (l : Rch) : List Value := [.bool l.null, .int .u64 (word (l.first) 0), .int .u64 (word (l.first) 1), .int .u64 (word (l.first) 2), .int .u64 (word (l.first) 3), .int .u64 (word (l.last) 0), .int .u64 (word (l.last) 1), .int .u64 (word (l.last) 2), .int .u64 (word (l.last) 3)]
theorem rchC_length (l : Rch) : (rchC l).length = 9 := rfl
/-- what waits: block B holds these, the last one at the end -/
def StkR (w : World) (B base g cap : Nat) (X : List Rch) : Prop := StkA w 127 83 9 B base g cap X.length (X.flatMap rchC)
theorem StkR.below {w w' : World} {B base g cap : Nat} {X : List Rch} (h : StkR w B base g cap X) (hb : Below w.heap.size w w') : StkR w' B base g cap X := StkA.below h hb
theorem StkR.alloc {w : World} {B base g cap : Nat} {X : List Rch} (h : StkR w B base g cap X) (o : Obj) : StkR (w.alloc o) B base g cap X := StkA.alloc h o
theorem StkR.drew {w : World} {B base g cap : Nat} {X : List Rch} (h : StkR w B base g cap X) : StkR w.drew B base g cap X := h
set_option maxHeartbeats 2000000 in
set_option maxRecDepth 100000 in
theorem takeR_calls {w : World} {B base g cap : Nat} {X : List Rch} {x : Rch} (h : StkR w B base g cap (X ++ [x])) (hX : X.length ≤ 1000) :
    Calls Tryz.prog 119 #[.pointer (some ⟨B, 0, none⟩)] w fun e w' => e = .returned (rchV x) ∧ StkR w' B base g cap X ∧ w.grownBy w' (some B) := by
  obtain ⟨_, hglt, hcap, _⟩ := StkA.row h
  obtain ⟨h1, h2⟩ := id h
  have hlen : (X.flatMap rchC).length = X.length * 9 := cells_flat rchC 9 rchC_length X
  have HP := hidden (StkA.pop (x := rchC x) hlen (by
    have h' := h
    unfold StkR at h'
    simp only [List.length_append, List.length_cons, List.length_nil, List.flatMap_append, List.flatMap_cons, List.flatMap_nil, List.append_nil, Nat.zero_add] at h'
    exact h') (by decide))
  simp only [List.length_append, List.length_cons, List.length_nil, List.flatMap_append, List.flatMap_cons, List.flatMap_nil, List.append_nil, Nat.zero_add] at h1 h2 hcap
  have hcx : ∀ j v, j < 9 → (rchC x)[j]? = some v → w.cell? ⟨g, X.length * 9 + j, none⟩ = some v := fun j v hj hv => by
    rw [World.ownsRow.cellAt h2 (X.length * 9 + j) (by omega), List.getElem?_append_right (by omega), hlen, Nat.add_sub_cancel_left]
    exact hv
  have k0 := hcx 0 (.bool x.null) (by decide) rfl
  have k1 := hcx 1 (.int .u64 (word x.first 0)) (by decide) rfl
  have k2 := hcx 2 (.int .u64 (word x.first 1)) (by decide) rfl
  have k3 := hcx 3 (.int .u64 (word x.first 2)) (by decide) rfl
  have k4 := hcx 4 (.int .u64 (word x.first 3)) (by decide) rfl
  have k5 := hcx 5 (.int .u64 (word x.last 0)) (by decide) rfl
  have k6 := hcx 6 (.int .u64 (word x.last 1)) (by decide) rfl
  have k7 := hcx 7 (.int .u64 (word x.last 2)) (by decide) rfl
  have k8 := hcx 8 (.int .u64 (word x.last 3)) (by decide) rfl
  rw [Nat.add_zero] at k0
  have hb := h1.cell
  have hf := h1.frozen
  have hlt := h1.lt
  obtain ⟨n, hn⟩ : ∃ n, n = X.length := ⟨_, rfl⟩
  unfold StkR
  rw [← hn] at hb k0 k1 k2 k3 k4 k5 k6 k7 k8 hX HP hcap ⊢
  have hw : IntKind.i64.wrap (((n + 1 : Nat) : Int) - 1) = n := by rw [IntKind.wrap_i64]; omega
  have hd : decide ((n : Int) < 0) = false := decide_eq_false (by omega)
  have hw2 : ((n + 1 : Nat) : Int) - 1 = n := by omega
  have q1 : w.heap.size ≠ B := by omega
  have q2 : w.heap.size + 1 ≠ B := by omega
  clear h h1 h2 hn hcx hlen
  unfold rchV
  go_enter Tryz.func119, Tryz.ntmps119
  go_wp2
  have hs : (w.setCell ⟨B, 0, none⟩ (.slice (some ⟨g, 0, none⟩) n cap)).heap.size = w.heap.size := by simp [World.setCell]
  have hL := heap_alloc2_old (w.setCell ⟨B, 0, none⟩ (.slice (some ⟨g, 0, none⟩) n cap)) (.cells #[.bool x.null, .int .u64 (word (x.first) 0), .int .u64 (word (x.first) 1), .int .u64 (word (x.first) 2), .int .u64 (word (x.first) 3), .int .u64 (word (x.last) 0), .int .u64 (word (x.last) 1), .int .u64 (word (x.last) 2), .int .u64 (word (x.last) 3)] 83) (.cells #[.bool x.null, .int .u64 (word (x.first) 0), .int .u64 (word (x.first) 1), .int .u64 (word (x.first) 2), .int .u64 (word (x.first) 3), .int .u64 (word (x.last) 0), .int .u64 (word (x.last) 1), .int .u64 (word (x.last) 2), .int .u64 (word (x.last) 3)] 83)
  rw [hs] at hL
  exact ret_rch (l := x) Tryz.results119 rfl rfl hL ⟨rfl, StkA.alloc (StkA.alloc HP.out _) _, gb_trans (gb_set B 0 _) (gb_trans (gb_alloc _) (gb_alloc _))⟩
/-- what evaluate needs of the world beside its stack: the net, the closure's pointer to it, the table -/
structure NEnv (NB PB base : Nat) (S : List (Nat → Bool)) (E : Nat → Nat → Bool) (w : World) : Prop where
  net : NetAt w NB base S E
  ptr : w.heap[PB]? = some (.cells #[.pointer (some ⟨NB, 0, none⟩)] 81 (0, 0))
  tab : Tab w
  low : base ≤ w.heap.size
  len : S.length ≤ 256
  over : 0 < base ∧ base ≤ NB
theorem Tab.mv {X : Nat → Prop} {base : Nat} {w w' : World} (h : Tab w) (hm : Mv X base w w') (hb : 0 < base) (hX : ¬ X 0) : Tab w' := fun j hj =>
  (World.cell?_of_block (hm.block _ (cell_lt (h j hj)) hX (fun hr => absurd hb (Nat.not_lt.2 hr.1)))).trans (h j hj)
theorem NEnv.below {NB PB base : Nat} {S : List (Nat → Bool)} {E : Nat → Nat → Bool} {w w' : World} (h : NEnv NB PB base S E w) (hb : Below w.heap.size w w') : NEnv NB PB base S E w' :=
  ⟨h.net.below hb, (hb.block _ (Array.getElem?_eq_some_iff.1 h.ptr).1).trans h.ptr, h.tab.below hb, Nat.le_trans h.low hb.size, h.len, h.over⟩
theorem NEnv.alloc {NB PB base : Nat} {S : List (Nat → Bool)} {E : Nat → Nat → Bool} {w : World} (h : NEnv NB PB base S E w) (o : Obj) : NEnv NB PB base S E (w.alloc o) := h.below ((Below.refl _ _).alloc (Nat.le_refl _) o)
theorem NEnv.drew {NB PB base : Nat} {S : List (Nat → Bool)} {E : Nat → Nat → Bool} {w : World} (h : NEnv NB PB base S E w) : NEnv NB PB base S E w.drew := h.below (Below.refl _ _).drew
/-- another net, by a call that turns nothing else but blocks from base on -/
theorem NEnv.to {X : Nat → Prop} {NB PB base : Nat} {S S' : List (Nat → Bool)} {E E' : Nat → Nat → Bool} {w w' : World} (h : NEnv NB PB base S E w) (hm : Mv X base w w') (hX : ∀ k, X k → base ≤ k) (hP : ¬ X PB) (hn : NetAt w' NB base S' E') (hl : S'.length ≤ 256) : NEnv NB PB base S' E' w' :=
  ⟨hn, hm.at h.ptr hP (by decide), h.tab.mv hm h.over.1 (fun hx => by have := hX _ hx; have := h.over.1; omega), Nat.le_trans h.low hm.size, hl, h.over⟩
/-- a block that is no net's: it may be turned -/
theorem NEnv.other {NB PB base b : Nat} {S : List (Nat → Bool)} {E : Nat → Nat → Bool} {w w' : World} {cs : Array Value} {t : TypeId} {fr : Nat × Nat} (h : NEnv NB PB base S E w) (hb : w.heap[b]? = some (.cells cs t fr)) (h1 : t ≠ 33) (h2 : t ≠ 110) (h3 : t ≠ 81) (h4 : base ≤ b) (hg : w.grownBy w' (some b)) : NEnv NB PB base S E w' :=
  h.to (X := fun k => k = b) (.grown hg (.inl rfl)) (fun k e => by rw [e]; exact h4) (fun e => by
    have hp := h.ptr
    rw [e, hb] at hp
    simp only [Option.some.injEq, Obj.cells.injEq] at hp
    exact h3 hp.2.1) (h.net.other hb h1 h2 hg) h.len
theorem StkR.mv {X : Nat → Prop} {base b0 B g cap : Nat} {w w' : World} {Y : List Rch} (h : StkR w B b0 g cap Y) (hm : Mv X base w w') (h1 : ¬ X B) (h2 : ¬ X g) : StkR w' B b0 g cap Y := hm.stk h h1 h2 (by decide) (by decide)
theorem NEnv.ne {NB PB base : Nat} {S : List (Nat → Bool)} {E : Nat → Nat → Bool} {w : World} (h : NEnv NB PB base S E w) : PB ≠ NB := fun e => by
  have hp := h.ptr
  obtain ⟨vs, vn, hv⟩ := h.net
  rw [e, hv.obj] at hp
  simp only [Option.some.injEq, Obj.cells.injEq] at hp
  exact absurd hp.2.1 (by decide)
/-- a call that turns a stack's block -/
theorem NEnv.took {NB PB base b0 B g cap : Nat} {w w' : World} {Y : List Rch} {S : List (Nat → Bool)} {E : Nat → Nat → Bool} (h : NEnv NB PB base S E w) (hs : StkR w B b0 g cap Y) (hB : base ≤ B) (hg : w.grownBy w' (some B)) : NEnv NB PB base S E w' :=
  h.other (t := 127) hs.1 (by decide) (by decide) (by decide) hB hg
/-- stack and net lie apart -/
theorem stk_net {NB PB base b0 B g cap : Nat} {w : World} {Y : List Rch} {S : List (Nat → Bool)} {E : Nat → Nat → Bool} (h : StkR w B b0 g cap Y) (hn : NEnv NB PB base S E w) : B ≠ NB ∧ g ≠ NB ∧ B ≠ PB := by
  obtain ⟨vs, vn, hv⟩ := hn.net
  refine ⟨fun e => ?_, fun e => ?_, fun e => ?_⟩
  · have h1 : w.heap[B]? = some (.cells #[.slice (some ⟨g, 0, none⟩) Y.length cap] 127 (0, 0)) := h.1
    rw [e, hv.obj] at h1
    simp only [Option.some.injEq, Obj.cells.injEq] at h1
    exact absurd h1.2.1 (by decide)
  · exact own_ne h.2 hv.obj (by decide) (by rw [← e]; rfl)
  · have h1 : w.heap[B]? = some (.cells #[.slice (some ⟨g, 0, none⟩) Y.length cap] 127 (0, 0)) := h.1
    rw [e, hn.ptr] at h1
    simp only [Option.some.injEq, Obj.cells.injEq] at h1
    exact absurd h1.2.1 (by decide)
end Go.Proofs.YthkboclooplpeaaGreatDoor
