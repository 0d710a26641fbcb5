/- KiDiv, KiOf, KiByt, KiFin, put together. -/
import Derived.Test.YtnjjbaodfjmiaaaGreatLt27
import Derived.Test.YtnjjbaodfjmiaaaGreatLt24
import Derived.Test.YtnjjbaodfjmiaaaGreatLt25
import Derived.Test.YtnjjbaodfjmiaaaGreatLt15
import Derived.Test.YtnjjbaodfjmiaaaGreatLt23
import Derived.Laws.AppendOwn
import Derived.OwnWalk
import Derived.Handy
/- Contract of the program's divides. -/
namespace Go.Proofs.YtnjjbaodfjmiaaaGreat
open Go.RowKit

/-- the two tables behind k rounds -/
structure Tabs (g : Nat → Nat) (f p q : Nat → Bool) (k : Nat) : Prop where
  yes : ∀ j, j < k → f j = true → p (g j) = true
  no : ∀ j, j < k → f j = false → q (g j) = true
  apart : ∀ c, p c = true → q c = false
theorem Tabs.start (g : Nat → Nat) (f : Nat → Bool) : Tabs g f (fun _ => false) (fun _ => false) 0 := ⟨fun j h => by omega, fun j h => by omega, fun c h => by cases h⟩
theorem Tabs.all {g : Nat → Nat} {f p q : Nat → Bool} (h : Tabs g f p q 256) : ∀ a b, a < 256 → b < 256 → g a = g b → f a = f b := by
  intro a b ha hb e
  cases h1 : f a <;> cases h2 : f b
  · rfl
  · have := h.apart _ (h.yes b hb h2)
    rw [← e, h.no a ha h1] at this
    cases this
  · have := h.apart _ (h.yes a ha h1)
    rw [e, h.no b hb h2] at this
    cases this
  · rfl

end Go.Proofs.YtnjjbaodfjmiaaaGreat

/- Contract of the program's Of. -/
namespace Go.Proofs.YtnjjbaodfjmiaaaGreat
open Go.RowKit
attribute [local go_sem] Rl.evalR_tmp Rl.evalR_const Rl.evalR_global Rl.evalR_func
end Go.Proofs.YtnjjbaodfjmiaaaGreat

/- Contracts of Bytes, the program's and the reference's: the bytes of a class as a row of the call's own. -/
namespace Go.Proofs.YtnjjbaodfjmiaaaGreat
open Go.RowKit

theorem row_below {w w' : World} {base : Nat} {e : TypeId} {size : Nat} {v : Value} {n : Nat} {xs : List Value} (h : w.ownsRow base e size v n xs) (hb : Below w.heap.size w w') : w'.ownsRow base e size v n xs :=
  h.kept (row := none) ⟨hb.os, hb.tape, hb.output, hb.size, fun k hk _ => hb.block k hk⟩ (by cases v.ownBlock <;> simp)
theorem below_grown {B : Nat} {a w w' : World} {base : Nat} {e : TypeId} {size : Nat} {v : Value} {n : Nat} {xs : List Value} (h : Below B a w) (hown : w.ownsRow base e size v n xs) (hg : w.grownBy w' v.ownBlock) (hB : B ≤ base) (hw : B ≤ w.heap.size) : Below B a w' :=
  h.grown hg hw fun k hk => Nat.le_trans hB (hown.lt k hk).1
theorem ArrAt.grown {w w' : World} {B base : Nat} {t e : TypeId} {size : Nat} {v : Value} {n : Nat} {xs : List Value} {u : Nat → Value} (h : ArrAt w B t u) (hown : w.ownsRow base e size v n xs) (hg : w.grownBy w' v.ownBlock) (hB : B < base) : ArrAt w' B t u := by
  refine (hg.block B h.lt fun e => ?_).trans h
  have := (hown.lt B e.symm).1
  omega
def byteV (n : Nat) : Value := .int .u8 n
theorem infoByte : (Tryz.prog.info? 5).map (fun i => (i.zero, i.size, i.bytes)) = some (some (.int .u8 0), 1, 1) := by kernel_rfl

/-- a slice of the call's own comes back, with these cells -/
def RetRow (base : Nat) (E : TypeId) (size n : Nat) (xs : List Value) (w : World) (e : Ending) (w' : World) : Prop := ∃ v, e = .returned v ∧ w'.ownsRow base E size v n xs ∧ Below w.heap.size w w'
theorem row_mono {w : World} {base base' : Nat} {e : TypeId} {size : Nat} {v : Value} {n : Nat} {xs : List Value} (h : w.ownsRow base e size v n xs) (hB : base' ≤ base) : w.ownsRow base' e size v n xs := by
  refine ⟨h.1, ?_⟩
  rcases h.2 with h1 | ⟨g, cap, cur, h1, h2, h3⟩
  · exact .inl h1
  · exact .inr ⟨g, cap, cur, h1, by omega, h3⟩
theorem take_more (f : Nat → Bool) (k : Nat) (h : f k = true) : ((List.range k).filter f) ++ [k] = (List.range (k + 1)).filter f := by
  rw [List.range_succ, List.filter_append]
  simp [h]
theorem take_same (f : Nat → Bool) (k : Nat) (h : f k = false) : (List.range k).filter f = (List.range (k + 1)).filter f := by
  rw [List.range_succ, List.filter_append]
  simp [h]
theorem filter_le (f : Nat → Bool) (k : Nat) : ((List.range k).filter f).length ≤ k := by
  have := List.length_filter_le f (List.range k)
  simpa using this
def GotB (f : Nat → Bool) (k base : Nat) (v : Value) (w : World) : Prop := w.ownsRow base 5 1 v ((List.range k).filter f).length (((List.range k).filter f).map byteV)
theorem gotB_step {f : Nat → Bool} {k base : Nat} {v : Value} {w : World} (h : f k = true) (hw : w.ownsRow base 5 1 v (((List.range k).filter f).length + 1) (((List.range k).filter f).map byteV ++ [.int .u8 k])) : GotB f (k + 1) base v w := by
  unfold GotB
  rw [← take_more f k h]
  simpa [byteV] using hw

theorem news_one {w : World} {x u : Value} {t : TypeId} {j : Nat} (hj : [x][j]? = some u) : (w.alloc (.cells #[x] t)).cell? ((⟨w.heap.size, 0, none⟩ : Addr).add j) = some u := by
  match j, hj with
  | 0, hj =>
    simp at hj
    subst hj
    rw [Addr.add_lit, World.cell?_alloc_at _ _ _ _ rfl]
    rfl

/-- of class c -/
def clsF (g : Nat → Nat) (c : Int) (b : Nat) : Bool := decide ((g b : Int) = c)
/-- the bytes of class c -/
def lstC (g : Nat → Nat) (c : Int) : List Nat := (List.range 256).filter (clsF g c)
set_option maxRecDepth 100000 in
theorem rbytes_calls (g : Nat → Nat) (c : Int) (w : World) (hg : ∀ j, j < 256 → g j < 256) :
    Calls Tryz.prog 35 #[ar g, .int .i64 c] w (RetRow (w.heap.size + 1) 5 1 (lstC g c).length ((lstC g c).map byteV) w) := by
  obtain ⟨i0, hi, hz0, hz1, hz2⟩ := info_parts infoByte
  have HI := hidden hi
  have HZ := hidden (And.intro hz0 (And.intro hz1 hz2))
  have HH := hidden hg
  clear hi hz0 hz1 hz2 hg
  have hbx := run_box_arr g
  go_enter Tryz.func35, Tryz.ntmps35
  go_wp2
  go_loopw [5, 6] (fun v i wr => ∃ k : Nat, k ≤ 256 ∧ i = .int .i64 k ∧ GotB (clsF g c) k (w.heap.size + 1) v wr ∧ ArrAt wr w.heap.size 22 (nV g) ∧ Below w.heap.size w wr ∧ w.heap.size + 1 ≤ wr.heap.size) (fun _ i _ => 256 - (Go.RowKit.intOf i).toNat)
  case atStart =>
    exact ⟨0, by omega, rfl, ⟨rfl, .inr ⟨_, 0, #[], rfl, Nat.le_refl _, heap_alloc2_new _ _ _, Nat.le_refl _, by decide, rfl, rfl⟩⟩, (ArrAt.new w _ _).alloc _, by go_grown, by simp⟩
  case round =>
    obtain ⟨k, hk, rfl, hG, hS, hb, hz⟩ := hrel
    by_cases hlt : k < 256
    · have hc := hS.cell hlt
      unfold nV at hc
      have hgk := HH.out k hlt
      have hwr : IntKind.u8.wrap (k : Int) = k := by rw [IntKind.wrap_u8]; omega
      have HS := hidden hS
      have HG := hidden hG
      have HB := hidden hb
      clear hS hG hb
      by_cases he : (g k : Int) = c
      · have hf : clsF g c k = true := by simp [clsF, he]
        have HF := hidden hf
        have hq : ((g k : Int) == c) = true := by simp [he]
        clear hf he
        have hle := filter_le (clsF g c) k
        go_wp2_with (at_builtin; refine wpList_append_own _ rfl _ _ 50 rfl (w.heap.size + 1) 5 i0 (.int .u8 0) 1 1 Tryz.underlying50 HI.out HZ.out.1 HZ.out.2.1 HZ.out.2.2 rfl (by decide) _ _ _ rfl (HG.out.alloc _) ⟨wr.heap.size, 0, none⟩ 1 1 [.int .u8 k] rfl rfl ?c1 ?c2 ?c3 ?c4 ?c5 ?_)
        case c1 => exact fun j u hj => news_one hj
        case c2 => exact fun u hu => by simp at hu; subst hu; rfl
        case c3 => unfold maxLen; omega
        case c4 => omega
        case c5 => simp; omega
        intro v2 w2 hown2 hgrow2 _
        have HO := hidden (HG.out.alloc (.cells #[.int .u8 k] 5))
        have HR := hidden hown2
        have HS2 := hidden ((HS.out.alloc (.cells #[.int .u8 k] 5)).grown HO.out hgrow2 (Nat.lt_succ_self _))
        have HB2 := hidden (below_grown (HB.out.alloc HB.out.size (.cells #[.int .u8 k] 5)) HO.out hgrow2 (Nat.le_succ _) (by simp; omega))
        have s2 := hgrow2.size
        simp at s2
        clear hown2 hgrow2
        go_wp2
        exact ⟨⟨k + 1, by omega, by go_num, gotB_step HF.out HR.out, HS2.out, HB2.out, by omega⟩, by simp [Go.RowKit.intOf]; omega⟩
      · have hf : clsF g c k = false := by simp [clsF, he]
        have HF := hidden hf
        have hq : ((g k : Int) == c) = false := by simp [he]
        clear hf he
        go_wp2
        refine ⟨⟨k + 1, by omega, by go_num, ?_, HS.out, HB.out, hz⟩, by simp [Go.RowKit.intOf]; omega⟩
        unfold GotB
        rw [← take_same (clsF g c) k HF.out]
        exact HG.out
    · have e : k = 256 := by omega
      subst e
      have HG := hidden hG
      have HB := hidden hb
      clear hG hS hb
      go_wp2
      go_ret
      exact ⟨_, rfl, HG.out, HB.out⟩

end Go.Proofs.YtnjjbaodfjmiaaaGreat

/- The least bytes of the classes: each class begins with one, they rise, and two of them are told apart. -/
namespace Go.Proofs.YtnjjbaodfjmiaaaGreat
open Go.RowKit

theorem lst_mem {g : Nat → Nat} {c : Int} {x : Nat} : x ∈ lstC g c ↔ x < 256 ∧ (g x : Int) = c := by
  simp [lstC, clsF]
theorem lst_sorted (g : Nat → Nat) (c : Int) : (lstC g c).Pairwise (· < ·) := List.Pairwise.filter _ List.pairwise_lt_range
variable {κ : Type} [DecidableEq κ]
/-- the least byte of a class -/
def lf (K : Nat → κ) (c : Nat) : Nat := (lstC (clsK K) c).headD 0
theorem lst_cons (K : Nat → κ) {c : Nat} (hc : c < cntK K 256) : ∃ r, lstC (clsK K) c = lf K c :: r := by
  obtain ⟨b, hb, hf, hn⟩ := cls_all K hc
  have hm : b ∈ lstC (clsK K) c := lst_mem.2 ⟨hb, by rw [cls_new K hf, hn]⟩
  unfold lf
  cases h : lstC (clsK K) c with
  | nil => rw [h] at hm; cases hm
  | cons x r => exact ⟨r, rfl⟩
theorem lf_is (K : Nat → κ) {c : Nat} (hc : c < cntK K 256) : lf K c < 256 ∧ clsK K (lf K c) = c ∧ fstK K (lf K c) = lf K c ∧ cntK K (lf K c) = c := by
  obtain ⟨r, hr⟩ := lst_cons K hc
  have hm : lf K c ∈ lstC (clsK K) c := by rw [hr]; exact List.mem_cons_self ..
  obtain ⟨h1, h2⟩ := lst_mem.1 hm
  have h2 : clsK K (lf K c) = c := by omega
  have hle := fst_le K (lf K c)
  have hf : fstK K (lf K c) = lf K c := by
    have hm2 : fstK K (lf K c) ∈ lstC (clsK K) c := lst_mem.2 ⟨by omega, by rw [cls_first, h2]⟩
    have hs := lst_sorted (clsK K) c
    rw [hr] at hs hm2
    rcases List.mem_cons.1 hm2 with e | e
    · exact e
    · have := (List.pairwise_cons.1 hs).1 _ e; omega
  exact ⟨h1, h2, hf, by rw [← cls_new K hf, h2]⟩
theorem lst_key (K : Nat → κ) {c y : Nat} (hc : c < cntK K 256) (hy : y ∈ lstC (clsK K) c) : K y = K (lf K c) := by
  have h := (lst_mem.1 hy).2
  rw [← cls_key K, (lf_is K hc).2.1]
  omega
theorem lf_lt (K : Nat → κ) {c : Nat} (hc : c + 1 < cntK K 256) : lf K c < lf K (c + 1) := by
  obtain ⟨_, _, _, h1⟩ := lf_is K (show c < cntK K 256 by omega)
  obtain ⟨_, _, _, h2⟩ := lf_is K hc
  by_cases h : lf K c < lf K (c + 1)
  · exact h
  · have := cnt_mono K (show lf K (c + 1) ≤ lf K c by omega)
    omega
theorem lf_key (K : Nat → κ) {c : Nat} (hc : c + 1 < cntK K 256) : K (lf K (c + 1)) ≠ K (lf K c) := by
  intro e
  have h1 := (lf_is K (show c < cntK K 256 by omega)).2.1
  have h2 := (lf_is K hc).2.1
  have := (cls_key K).2 e
  omega

/-- does one of the first i sets tell x from y? -/
def apB (fs : List (Nat → Bool)) (x y i : Nat) : Bool := (List.range i).any fun j => fs.getD j fNone x != fs.getD j fNone y
theorem apB_more (fs : List (Nat → Bool)) (x y i : Nat) : apB fs x y (i + 1) = (apB fs x y i || (fs.getD i fNone x != fs.getD i fNone y)) := by
  unfold apB
  rw [List.range_succ, List.any_append]
  simp
theorem apB_all {fs : List (Nat → Bool)} {x y : Nat} (h : keyL fs x ≠ keyL fs y) : apB fs x y fs.length = true := by
  by_cases e : apB fs x y fs.length = true
  · exact e
  · exfalso
    apply h
    rw [keyL_eq]
    intro i hi
    have e2 : apB fs x y fs.length = false := by simpa using e
    unfold apB at e2
    rw [List.any_eq_false] at e2
    have := e2 i (by simpa using hi)
    simpa using this
end Go.Proofs.YtnjjbaodfjmiaaaGreat
