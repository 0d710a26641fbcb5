/- KiByt, KiFin, DfNet, DfAns, put together. -/
import Derived.Test.YtmpjjnjggihojaaGreatDoorDf01
import Derived.Laws.AppendOwn
import Derived.OwnWalk
import Derived.Handy
import Derived.Test.YtmpjjnjggihojaaGreatDoorDf03
import Derived.Test.YtmpjjnjggihojaaGreatDoorDf14
import Derived.Test.YtmpjjnjggihojaaGreatDoorDf19
import Derived.Test.YtmpjjnjggihojaaGreatDoorDf20
import Derived.Test.YtmpjjnjggihojaaGreatDoorDf21
import Derived.Test.YtmpjjnjggihojaaGreatDoorDf22
import Derived.Test.YtmpjjnjggihojaaGreatDoorDf13
/- Contracts of Bytes, the program's and the reference's: the bytes of a class as a row of the call's own. -/
namespace Go.Proofs.YtmpjjnjggihojaaGreatDoor
open Go.RowKit

theorem row_below {w w' : World} {base : Nat} {e : TypeId} {size : Nat} {v : Value} {n : Nat} {xs : List Value} (h : w.ownsRow base e size v n xs) (hb : Below w.heap.size w w') : w'.ownsRow base e size v n xs :=
  h.kept (row := none) ⟨hb.os, hb.tape, hb.output, hb.size, fun k hk _ => hb.block k hk⟩ (by cases v.ownBlock <;> simp)
theorem below_grown {B : Nat} {a w w' : World} {base : Nat} {e : TypeId} {size : Nat} {v : Value} {n : Nat} {xs : List Value} (h : Below B a w) (hown : w.ownsRow base e size v n xs) (hg : w.grownBy w' v.ownBlock) (hB : B ≤ base) (hw : B ≤ w.heap.size) : Below B a w' :=
  h.grown hg hw fun k hk => Nat.le_trans hB (hown.lt k hk).1
theorem ArrAt.grown {w w' : World} {B base : Nat} {t e : TypeId} {size : Nat} {v : Value} {n : Nat} {xs : List Value} {u : Nat → Value} (h : ArrAt w B t u) (hown : w.ownsRow base e size v n xs) (hg : w.grownBy w' v.ownBlock) (hB : B < base) : ArrAt w' B t u := by
  refine (hg.block B h.lt fun e => ?_).trans h
  have := (hown.lt B e.symm).1
  omega
def byteV (n : Nat) : Value := .int .u8 n
theorem infoByte : (Tryz.prog.info? 5).map (fun i => (i.zero, i.size, i.bytes)) = some (some (.int .u8 0), 1, 1) := by kernel_rfl

/-- a slice of the call's own comes back, with these cells -/
def RetRow (base : Nat) (E : TypeId) (size n : Nat) (xs : List Value) (w : World) (e : Ending) (w' : World) : Prop := ∃ v, e = .returned v ∧ w'.ownsRow base E size v n xs ∧ Below w.heap.size w w'
theorem row_mono {w : World} {base base' : Nat} {e : TypeId} {size : Nat} {v : Value} {n : Nat} {xs : List Value} (h : w.ownsRow base e size v n xs) (hB : base' ≤ base) : w.ownsRow base' e size v n xs := by
  refine ⟨h.1, ?_⟩
  rcases h.2 with h1 | ⟨g, cap, cur, h1, h2, h3⟩
  · exact .inl h1
  · exact .inr ⟨g, cap, cur, h1, by omega, h3⟩
theorem take_more (f : Nat → Bool) (k : Nat) (h : f k = true) : ((List.range k).filter f) ++ [k] = (List.range (k + 1)).filter f := by
  rw [List.range_succ, List.filter_append]
  simp [h]
theorem take_same (f : Nat → Bool) (k : Nat) (h : f k = false) : (List.range k).filter f = (List.range (k + 1)).filter f := by
  rw [List.range_succ, List.filter_append]
  simp [h]
theorem filter_le (f : Nat → Bool) (k : Nat) : ((List.range k).filter f).length ≤ k := by
  have := List.length_filter_le f (List.range k)
  simpa using this
def GotB (f : Nat → Bool) (k base : Nat) (v : Value) (w : World) : Prop := w.ownsRow base 5 1 v ((List.range k).filter f).length (((List.range k).filter f).map byteV)
theorem gotB_step {f : Nat → Bool} {k base : Nat} {v : Value} {w : World} (h : f k = true) (hw : w.ownsRow base 5 1 v (((List.range k).filter f).length + 1) (((List.range k).filter f).map byteV ++ [.int .u8 k])) : GotB f (k + 1) base v w := by
  unfold GotB
  rw [← take_more f k h]
  simpa [byteV] using hw

theorem news_one {w : World} {x u : Value} {t : TypeId} {j : Nat} (hj : [x][j]? = some u) : (w.alloc (.cells #[x] t)).cell? ((⟨w.heap.size, 0, none⟩ : Addr).add j) = some u := by
  match j, hj with
  | 0, hj =>
    simp at hj
    subst hj
    rw [Addr.add_lit, World.cell?_alloc_at _ _ _ _ rfl]
    rfl

/-- of class c -/
def clsF (g : Nat → Nat) (c : Int) (b : Nat) : Bool := decide ((g b : Int) = c)
/-- the bytes of class c -/
def lstC (g : Nat → Nat) (c : Int) : List Nat := (List.range 256).filter (clsF g c)
set_option maxRecDepth 100000 in
theorem rbytes_calls (g : Nat → Nat) (c : Int) (w : World) (hg : ∀ j, j < 256 → g j < 256) :
    Calls Tryz.prog 29 #[ar g, .int .i64 c] w (RetRow (w.heap.size + 1) 5 1 (lstC g c).length ((lstC g c).map byteV) w) := by
  obtain ⟨i0, hi, hz0, hz1, hz2⟩ := info_parts infoByte
  have HI := hidden hi
  have HZ := hidden (And.intro hz0 (And.intro hz1 hz2))
  have HH := hidden hg
  clear hi hz0 hz1 hz2 hg
  have hbx := run_box_arr g
  go_enter Tryz.func29, Tryz.ntmps29
  go_wp2
  go_loopw [5, 6] (fun v i wr => ∃ k : Nat, k ≤ 256 ∧ i = .int .i64 k ∧ GotB (clsF g c) k (w.heap.size + 1) v wr ∧ ArrAt wr w.heap.size 30 (nV g) ∧ Below w.heap.size w wr ∧ w.heap.size + 1 ≤ wr.heap.size) (fun _ i _ => 256 - (intOf i).toNat)
  case atStart =>
    exact ⟨0, by omega, rfl, ⟨rfl, .inr ⟨_, 0, #[], rfl, Nat.le_refl _, heap_alloc2_new _ _ _, Nat.le_refl _, by decide, rfl, rfl⟩⟩, (ArrAt.new w _ _).alloc _, by go_grown, by simp⟩
  case round =>
    obtain ⟨k, hk, rfl, hG, hS, hb, hz⟩ := hrel
    by_cases hlt : k < 256
    · have hc := hS.cell hlt
      unfold nV at hc
      have hgk := HH.out k hlt
      have hwr : IntKind.u8.wrap (k : Int) = k := by rw [IntKind.wrap_u8]; omega
      have HS := hidden hS
      have HG := hidden hG
      have HB := hidden hb
      clear hS hG hb
      by_cases he : (g k : Int) = c
      · have hf : clsF g c k = true := by simp [clsF, he]
        have HF := hidden hf
        have hq : ((g k : Int) == c) = true := by simp [he]
        clear hf he
        have hle := filter_le (clsF g c) k
        go_wp2_with (at_builtin; refine wpList_append_own _ rfl _ _ 59 rfl (w.heap.size + 1) 5 i0 (.int .u8 0) 1 1 Tryz.underlying59 HI.out HZ.out.1 HZ.out.2.1 HZ.out.2.2 rfl (by decide) _ _ _ rfl (HG.out.alloc _) ⟨wr.heap.size, 0, none⟩ 1 1 [.int .u8 k] rfl rfl ?c1 ?c2 ?c3 ?c4 ?c5 ?_)
        case c1 => exact fun j u hj => news_one hj
        case c2 => exact fun u hu => by simp at hu; subst hu; rfl
        case c3 => unfold maxLen; omega
        case c4 => omega
        case c5 => simp; omega
        intro v2 w2 hown2 hgrow2 _
        have HO := hidden (HG.out.alloc (.cells #[.int .u8 k] 5))
        have HR := hidden hown2
        have HS2 := hidden ((HS.out.alloc (.cells #[.int .u8 k] 5)).grown HO.out hgrow2 (Nat.lt_succ_self _))
        have HB2 := hidden (below_grown (HB.out.alloc HB.out.size (.cells #[.int .u8 k] 5)) HO.out hgrow2 (Nat.le_succ _) (by simp; omega))
        have s2 := hgrow2.size
        simp at s2
        clear hown2 hgrow2
        go_wp2
        exact ⟨⟨k + 1, by omega, by go_num, gotB_step HF.out HR.out, HS2.out, HB2.out, by omega⟩, by simp [intOf]; omega⟩
      · have hf : clsF g c k = false := by simp [clsF, he]
        have HF := hidden hf
        have hq : ((g k : Int) == c) = false := by simp [he]
        clear hf he
        go_wp2
        refine ⟨⟨k + 1, by omega, by go_num, ?_, HS.out, HB.out, hz⟩, by simp [intOf]; omega⟩
        unfold GotB
        rw [← take_same (clsF g c) k HF.out]
        exact HG.out
    · have e : k = 256 := by omega
      subst e
      have HG := hidden hG
      have HB := hidden hb
      clear hG hS hb
      go_wp2
      go_ret
      exact ⟨_, rfl, HG.out, HB.out⟩

set_option maxRecDepth 100000 in
theorem bytes_calls (g : Nat → Nat) (c : Int) (w : World) (hg : ∀ j, j < 256 → g j < 256) :
    Calls Tryz.prog 73 #[ar g, .int .i64 c] w (RetRow (w.heap.size + 1) 5 1 (lstC g c).length ((lstC g c).map byteV) w) := by
  obtain ⟨i0, hi, hz0, hz1, hz2⟩ := info_parts infoByte
  have HI := hidden hi
  have HZ := hidden (And.intro hz0 (And.intro hz1 hz2))
  have HH := hidden hg
  clear hi hz0 hz1 hz2 hg
  have hbx := run_box_arr g
  go_enter Tryz.func73, Tryz.ntmps73
  go_wp2
  go_loopw [5, 7] (fun v i wr => ∃ k : Nat, k ≤ 256 ∧ i = .int .i64 k ∧ GotB (clsF g c) k (w.heap.size + 1) v wr ∧ ArrAt wr w.heap.size 30 (nV g) ∧ Below w.heap.size w wr ∧ w.heap.size + 1 ≤ wr.heap.size) (fun _ i _ => 256 - (intOf i).toNat)
  case atStart =>
    exact ⟨0, by omega, rfl, ⟨rfl, .inl ⟨rfl, rfl⟩⟩, ArrAt.new w _ _, by go_grown, by simp⟩
  case round =>
    obtain ⟨k, hk, rfl, hG, hS, hb, hz⟩ := hrel
    by_cases hlt : k < 256
    · have hc := hS.cell hlt
      unfold nV at hc
      have hgk := HH.out k hlt
      have hwr : IntKind.u8.wrap (k : Int) = k := by rw [IntKind.wrap_u8]; omega
      have HS := hidden hS
      have HG := hidden hG
      have HB := hidden hb
      clear hS hG hb
      by_cases he : (g k : Int) = c
      · have hf : clsF g c k = true := by simp [clsF, he]
        have HF := hidden hf
        have hq : ((g k : Int) == c) = true := by simp [he]
        clear hf he
        have hle := filter_le (clsF g c) k
        go_wp2_with (at_builtin; refine wpList_append_own _ rfl _ _ 59 rfl (w.heap.size + 1) 5 i0 (.int .u8 0) 1 1 Tryz.underlying59 HI.out HZ.out.1 HZ.out.2.1 HZ.out.2.2 rfl (by decide) _ _ _ rfl (HG.out.alloc _) ⟨wr.heap.size, 0, none⟩ 1 1 [.int .u8 k] rfl rfl ?c1 ?c2 ?c3 ?c4 ?c5 ?_)
        case c1 => exact fun j u hj => news_one hj
        case c2 => exact fun u hu => by simp at hu; subst hu; rfl
        case c3 => unfold maxLen; omega
        case c4 => omega
        case c5 => simp; omega
        intro v2 w2 hown2 hgrow2 _
        have HO := hidden (HG.out.alloc (.cells #[.int .u8 k] 5))
        have HR := hidden hown2
        have HS2 := hidden ((HS.out.alloc (.cells #[.int .u8 k] 5)).grown HO.out hgrow2 (Nat.lt_succ_self _))
        have HB2 := hidden (below_grown (HB.out.alloc HB.out.size (.cells #[.int .u8 k] 5)) HO.out hgrow2 (Nat.le_succ _) (by simp; omega))
        have s2 := hgrow2.size
        simp at s2
        clear hown2 hgrow2
        go_wp2
        exact ⟨⟨k + 1, by omega, by go_num, gotB_step HF.out HR.out, HS2.out, HB2.out, by omega⟩, by simp [intOf]; omega⟩
      · have hf : clsF g c k = false := by simp [clsF, he]
        have HF := hidden hf
        have hq : ((g k : Int) == c) = false := by simp [he]
        clear hf he
        go_wp2
        refine ⟨⟨k + 1, by omega, by go_num, ?_, HS.out, HB.out, hz⟩, by simp [intOf]; omega⟩
        unfold GotB
        rw [← take_same (clsF g c) k HF.out]
        exact HG.out
    · have e : k = 256 := by omega
      subst e
      have HG := hidden hG
      have HB := hidden hb
      clear hG hS hb
      go_wp2
      go_ret
      exact ⟨_, rfl, HG.out, HB.out⟩

end Go.Proofs.YtmpjjnjggihojaaGreatDoor

/- The least bytes of the classes: each class begins with one, they rise, and two of them are told apart. -/
namespace Go.Proofs.YtmpjjnjggihojaaGreatDoor
open Go.RowKit

theorem lst_mem {g : Nat → Nat} {c : Int} {x : Nat} : x ∈ lstC g c ↔ x < 256 ∧ (g x : Int) = c := by
  simp [lstC, clsF]
theorem lst_sorted (g : Nat → Nat) (c : Int) : (lstC g c).Pairwise (· < ·) := List.Pairwise.filter _ List.pairwise_lt_range
variable {κ : Type} [DecidableEq κ]
/-- the least byte of a class -/
def lf (K : Nat → κ) (c : Nat) : Nat := (lstC (clsK K) c).headD 0
theorem lst_cons (K : Nat → κ) {c : Nat} (hc : c < cntK K 256) : ∃ r, lstC (clsK K) c = lf K c :: r := by
  obtain ⟨b, hb, hf, hn⟩ := cls_all K hc
  have hm : b ∈ lstC (clsK K) c := lst_mem.2 ⟨hb, by rw [cls_new K hf, hn]⟩
  unfold lf
  cases h : lstC (clsK K) c with
  | nil => rw [h] at hm; cases hm
  | cons x r => exact ⟨r, rfl⟩
theorem lf_is (K : Nat → κ) {c : Nat} (hc : c < cntK K 256) : lf K c < 256 ∧ clsK K (lf K c) = c ∧ fstK K (lf K c) = lf K c ∧ cntK K (lf K c) = c := by
  obtain ⟨r, hr⟩ := lst_cons K hc
  have hm : lf K c ∈ lstC (clsK K) c := by rw [hr]; exact List.mem_cons_self ..
  obtain ⟨h1, h2⟩ := lst_mem.1 hm
  have h2 : clsK K (lf K c) = c := by omega
  have hle := fst_le K (lf K c)
  have hf : fstK K (lf K c) = lf K c := by
    have hm2 : fstK K (lf K c) ∈ lstC (clsK K) c := lst_mem.2 ⟨by omega, by rw [cls_first, h2]⟩
    have hs := lst_sorted (clsK K) c
    rw [hr] at hs hm2
    rcases List.mem_cons.1 hm2 with e | e
    · exact e
    · have := (List.pairwise_cons.1 hs).1 _ e; omega
  exact ⟨h1, h2, hf, by rw [← cls_new K hf, h2]⟩
theorem lst_key (K : Nat → κ) {c y : Nat} (hc : c < cntK K 256) (hy : y ∈ lstC (clsK K) c) : K y = K (lf K c) := by
  have h := (lst_mem.1 hy).2
  rw [← cls_key K, (lf_is K hc).2.1]
  omega
theorem lf_lt (K : Nat → κ) {c : Nat} (hc : c + 1 < cntK K 256) : lf K c < lf K (c + 1) := by
  obtain ⟨_, _, _, h1⟩ := lf_is K (show c < cntK K 256 by omega)
  obtain ⟨_, _, _, h2⟩ := lf_is K hc
  by_cases h : lf K c < lf K (c + 1)
  · exact h
  · have := cnt_mono K (show lf K (c + 1) ≤ lf K c by omega)
    omega
theorem lf_key (K : Nat → κ) {c : Nat} (hc : c + 1 < cntK K 256) : K (lf K (c + 1)) ≠ K (lf K c) := by
  intro e
  have h1 := (lf_is K (show c < cntK K 256 by omega)).2.1
  have h2 := (lf_is K hc).2.1
  have := (cls_key K).2 e
  omega

/-- does one of the first i sets tell x from y? -/
def apB (fs : List (Nat → Bool)) (x y i : Nat) : Bool := (List.range i).any fun j => fs.getD j fNone x != fs.getD j fNone y
theorem apB_more (fs : List (Nat → Bool)) (x y i : Nat) : apB fs x y (i + 1) = (apB fs x y i || (fs.getD i fNone x != fs.getD i fNone y)) := by
  unfold apB
  rw [List.range_succ, List.any_append]
  simp
theorem apB_all {fs : List (Nat → Bool)} {x y : Nat} (h : keyL fs x ≠ keyL fs y) : apB fs x y fs.length = true := by
  by_cases e : apB fs x y fs.length = true
  · exact e
  · exfalso
    apply h
    rw [keyL_eq]
    intro i hi
    have e2 : apB fs x y fs.length = false := by simpa using e
    unfold apB at e2
    rw [List.any_eq_false] at e2
    have := e2 i (by simpa using hi)
    simpa using this
end Go.Proofs.YtmpjjnjggihojaaGreatDoor

/- The machine of a net: classes by the net's sets, each class goes where its bytes go; the machine is right; a word's state stands for the word's spots, and its label is their token. -/
namespace Go.Proofs.YtmpjjnjggihojaaGreatDoor
open Go.RowKit

theorem rgt_cls14 {κ : Type} [DecidableEq κ] (k : Nat → κ) : ∀ n b, rgt (clsK k) n b (cntK k b) = true
  | 0, _ => rfl
  | n + 1, b => by
    have h := cls_le k b
    rw [rgt, if_neg (by omega)]
    by_cases e : fstK k b = b
    · rw [if_pos (cls_new k e), ← cnt_new k e]; exact rgt_cls14 k n (b + 1)
    · rw [if_neg (by have := cls_old k e; omega), ← cnt_old k e]; exact rgt_cls14 k n (b + 1)
/-- what tells the bytes apart -/
def netK (N : NetM) : Nat → List Bool := keyL (N.sets.map bitsE)
def clsN (N : NetM) : Nat → Nat := clsK (netK N)
def widN (N : NetM) : Nat := cntK (netK N) 256
theorem bits_key {N : NetM} {a b : Nat} (h : netK N a = netK N b) {q : Nat} (hq : q < N.sets.length) : selB N.sets a (q : Int) = selB N.sets b (q : Int) := by
  have := keyL_eq.1 h q (by simpa using hq)
  have e : (N.sets.map bitsE).getD q fNone = bitsE (N.sets.getD q default) := by
    simp [List.getD_eq_getElem?_getD, hq]
  rw [e] at this
  exact this
theorem hits_same14 {f g : Nat → Bool} {n : Nat} (h : ∀ q, q < n → f q = g q) : hits f n = hits g n :=
  List.filter_congr fun q hq => h q (by simpa using hq)
theorem start_key {N : NetM} {a b : Nat} (h : netK N a = netK N b) : startM N a = startM N b := by
  unfold startM
  split
  · exact hits_same14 fun q hq => by unfold withG; rw [bits_key h hq]
  · rfl
theorem step_key {N : NetM} {a b : Nat} (h : netK N a = netK N b) (l : List Int) : stepM N l a = stepM N l b := by
  unfold stepM
  split
  · exact hits_same14 fun q hq => by rw [bits_key h hq]
  · rfl
/-- where a state goes by a class -/
def goN (N : NetM) (i : Nat) (l : List Int) (c : Nat) : List Int := if i = 0 then spI (startM N (lf (netK N) c)) else spI (stepM N l (lf (netK N) c))
theorem go_byte (N : NetM) (i : Nat) (l : List Int) {b : Nat} (hb : b < 256) : goN N i l (clsN N b) = if i = 0 then spI (startM N b) else spI (stepM N l b) := by
  have h := (lf_is (netK N) (cls_lt (netK N) hb)).2.1
  have e := (cls_key (netK N)).1 h
  unfold goN clsN
  rw [start_key e, step_key e]
/-- the machine behind n rows -/
def machS (N : NetM) (n : Nat) : List (List Int) × List (List Int) × List Int := outS (goN N) (tokenM N) (widN N) n
def machM (N : NetM) (n : Nat) : DfaM := ⟨clsN N, widN N, (machS N n).2.1, (machS N n).2.2⟩
theorem token_lo (N : NetM) (l : List Int) : -1 ≤ tokenM N l := by
  unfold tokenM
  split
  · rename_i h
    have hof : ∀ x : Int, lasB N x = true → 0 ≤ N.of.getD x.toNat 0 := fun x hx => by
      unfold lasB at hx
      unfold rightB at h
      simp only [Bool.and_eq_true, decide_eq_true_eq, List.all_eq_true, List.mem_range] at hx h
      exact (h.2.2 x.toNat (by omega)).1
    unfold tokV
    have : ∀ (l : List Int) (t : Int), -1 ≤ t → -1 ≤ l.foldl (tokS N) t := by
      intro l
      induction l with
      | nil => exact fun t ht => ht
      | cons x r ih =>
        intro t ht
        refine ih _ ?_
        unfold tokS
        split
        · rename_i hx
          rw [Bool.and_eq_true] at hx
          have := hof x hx.1
          omega
        · exact ht
    exact this l (-1) (by omega)
  · omega
theorem token_nil (N : NetM) : tokenM N [] = -1 := by
  unfold tokenM tokV
  split <;> rfl
section
variable {N : NetM} {n : Nat}
/-- the numbers of a machine that is done -/
theorem mach_next (hn : (machS N n).1.length = n) {i : Nat} (hi : i < n) : ((machS N n).2.1.getD i []).length = widN N ∧
    (∀ b, b < 256 → stdF (machS N n).1 (((machS N n).2.1.getD i []).getD (clsN N b) 0) (if i = 0 then spI (startM N b) else spI (stepM N ((machS N n).1.getD i []) b))) ∧
    (machS N n).2.2.getD i 0 = tokenM N ((machS N n).1.getD i []) := by
  obtain ⟨_, h2⟩ := outS_ok (goN N) (tokenM N) (widN N) n (Nat.le_of_eq hn.symm)
  obtain ⟨k1, k2, k3⟩ := h2 i hi
  refine ⟨k1, fun b hb => ?_, k3⟩
  have := k2 (clsN N b) (cls_lt (netK N) hb)
  rwa [go_byte N i _ hb] at this
theorem mach_fnd (hn : (machS N n).1.length = n) : FndOk (machS N n).1 := (outS_ok (goN N) (tokenM N) (widN N) n (Nat.le_of_eq hn.symm)).1
theorem mach_lens (hn : (machS N n).1.length = n) : (machS N n).2.1.length = n ∧ (machS N n).2.2.length = n := outS_lens (goN N) (tokenM N) (widN N) n (Nat.le_of_eq hn.symm)
theorem mach_right (hn : (machS N n).1.length = n) : rightD (machM N n) = true := by
  obtain ⟨l1, l2⟩ := mach_lens hn
  have hp := (mach_fnd hn).pos
  obtain ⟨_, h2⟩ := outS_ok (goN N) (tokenM N) (widN N) n (Nat.le_of_eq hn.symm)
  refine rightD_all ?_ fun i hi => ?_
  · unfold headOk
    simp only [Bool.and_eq_true, decide_eq_true_eq]
    refine ⟨rgt_cls14 (netK N) 256 0, ?_, ?_, ?_⟩
    · show ((widN N : Nat) : Int) = _
      rw [show (machM N n).cls = clsK (netK N) from rfl, wid_cls]; rfl
    · show (machS N n).2.1.length ≠ 0
      omega
    · show (machS N n).2.2.length = (machS N n).2.1.length
      omega
  · have hi' : i < n := by
      have : (machM N n).next.length = n := l1
      omega
    obtain ⟨k1, k2, k3⟩ := h2 i hi'
    unfold rowOk
    simp only [Bool.and_eq_true, decide_eq_true_eq, List.all_eq_true]
    refine ⟨?_, ?_, fun x hx => ?_⟩
    · show ((((machS N n).2.1.getD i []).length : Nat) : Int) = (widN N : Nat)
      exact congrArg _ k1
    · show -1 ≤ (machS N n).2.2.getD i 0
      rw [show (machS N n).2.2.getD i 0 = _ from k3]
      exact token_lo N _
    · have hx : x ∈ (machS N n).2.1.getD i [] := hx
      obtain ⟨c, hc, rfl⟩ := List.mem_iff_getElem.1 hx
      have hb := (k2 c (by rw [← k1]; exact hc)).bound
      have e : ((machS N n).2.1.getD i []).getD c 0 = ((machS N n).2.1.getD i [])[c] := by
        rw [List.getD_eq_getElem?_getD, List.getElem?_eq_getElem hc]; rfl
      have hb' : -1 ≤ ((machS N n).2.1.getD i []).getD c 0 ∧ ((machS N n).2.1.getD i []).getD c 0 < (machS N n).1.length := hb
      rw [e] at hb'
      unfold entB
      simp only [Bool.and_eq_true, decide_eq_true_eq]
      refine ⟨hb'.1, ?_⟩
      show _ < (((machS N n).2.1.length : Nat) : Int)
      rw [l1]; omega
/-- from a state that stands for a list that is not empty -/
theorem run_from (hn : (machS N n).1.length = n) : ∀ (W : List Nat), (∀ b ∈ W, b < 256) → ∀ (s : Int) (L : List Nat), stdF (machS N n).1 s (spI L) → stdF (machS N n).1 (runS (machM N n) s W) (spI (W.foldl (fun l b => stepM N (spI l) b) L))
  | [], _, s, L, h => h
  | b :: W, hW, s, L, h => by
    rw [List.foldl_cons]
    rcases h with ⟨h1, rfl⟩ | ⟨h1, k, rfl, hk⟩
    · have e : stepM N (spI L) b = [] := by rw [h1]; exact stepM_nil N b
      have : runS (machM N n) (-1) (b :: W) = runS (machM N n) (-1) W := by
        rw [runS_stop _ (by omega), runS_stop _ (by omega)]
      rw [this, e]
      refine run_from hn W (fun b hb => hW b (List.mem_cons_of_mem _ hb)) (-1) [] (.inl ⟨?_, rfl⟩)
      unfold spI; rfl
    · have hkn : k < n := by
        have := (List.getElem?_eq_some_iff.1 hk).1
        omega
      have h0 : k ≠ 0 := by
        rintro rfl
        have hz := (mach_fnd hn).zero
        rw [List.getD_eq_getElem?_getD, hk] at hz
        exact h1 hz
      have hg : (machS N n).1.getD k [] = spI L := by rw [List.getD_eq_getElem?_getD, hk]; rfl
      have hs := (mach_next hn hkn).2.1 b (hW b (List.mem_cons_self ..))
      rw [if_neg h0, hg] at hs
      have : runS (machM N n) (k : Int) (b :: W) = runS (machM N n) (((machS N n).2.1.getD k []).getD (clsN N b) 0) W := by
        conv => lhs; unfold runS
        rw [if_neg (by omega)]
        rfl
      rw [this]
      exact run_from hn W (fun b hb => hW b (List.mem_cons_of_mem _ hb)) _ _ hs
theorem run_stands (hn : (machS N n).1.length = n) {W : List Nat} (hW : ∀ b ∈ W, b < 256) (h : W ≠ []) : stdF (machS N n).1 (runD (machM N n) W) (spI (runM N W)) := by
  unfold runD
  rw [if_pos (mach_right hn)]
  obtain ⟨b, r, rfl⟩ : ∃ b r, W = b :: r := by
    cases W with
    | nil => exact absurd rfl h
    | cons b r => exact ⟨b, r, rfl⟩
  have hp := (mach_fnd hn).pos
  have hs := (mach_next hn (i := 0) (by omega)).2.1 b (hW b (List.mem_cons_self ..))
  rw [if_pos rfl] at hs
  have : runS (machM N n) 0 (b :: r) = runS (machM N n) (((machS N n).2.1.getD 0 []).getD (clsN N b) 0) r := by
    conv => lhs; unfold runS
    rw [if_neg (by omega)]
    rfl
  rw [this]
  exact run_from hn r (fun b hb => hW b (List.mem_cons_of_mem _ hb)) _ _ hs
/-- the label behind a word -/
theorem label_word (hn : (machS N n).1.length = n) {W : List Nat} (hW : ∀ b ∈ W, b < 256) (h : W ≠ []) : labelD (machM N n) (runD (machM N n) W) = tokenM N (spI (runM N W)) := by
  have l2 := (mach_lens hn).2
  rcases run_stands hn hW h with ⟨h1, h2⟩ | ⟨h1, k, h2, hk⟩
  · rw [h1, h2, token_nil]
    unfold labelD
    rw [if_neg (by omega)]
  · have hkn : k < n := by
      have := (List.getElem?_eq_some_iff.1 hk).1
      omega
    have hg : (machS N n).1.getD k [] = spI (runM N W) := by rw [List.getD_eq_getElem?_getD, hk]; rfl
    rw [h2]
    unfold labelD
    rw [if_pos ⟨mach_right hn, by omega, by show _ < (((machS N n).2.2.length : Nat) : Int); omega⟩]
    show (machS N n).2.2.getD ((k : Int).toNat) 0 = _
    rw [Int.toNat_natCast, (mach_next hn hkn).2.2, hg]
end
end Go.Proofs.YtmpjjnjggihojaaGreatDoor

/- What Build answers for a net and a bound; the exact bound. -/
namespace Go.Proofs.YtmpjjnjggihojaaGreatDoor
open Go.RowKit

/-- how many are found, with a bound -/
def fndN (N : NetM) (m : Nat) : Nat := (machS N (m + 1)).1.length
/-- done within the bound: as many rows as lists, however large the bound -/
theorem mach_done {N : NetM} {m : Nat} (h : fndN N m ≤ m) : (machS N (fndN N m)).1.length = fndN N m ∧ ∀ d, machS N (fndN N m + d) = machS N (fndN N m) := by
  obtain ⟨K, hK⟩ : ∃ K, K = fndN N m := ⟨_, rfl⟩
  rw [← hK] at h ⊢
  have hle : (machS N K).1.length ≤ K := by
    have := (outS_pre (goN N) (tokenM N) (widN N) (show K ≤ m + 1 by omega)).length_le
    rw [hK]; rw [hK] at this
    exact this
  have hs : ∀ d, machS N (K + d) = machS N K := outS_stop (goN N) (tokenM N) (widN N) hle
  refine ⟨?_, hs⟩
  have := hs (m + 1 - K)
  rw [show K + (m + 1 - K) = m + 1 by omega] at this
  have e : fndN N m = (machS N K).1.length := by unfold fndN; rw [this]
  omega
theorem fnd_same {N : NetM} {m m' : Nat} (h : fndN N m ≤ m) (h' : fndN N m ≤ m') : machS N (m' + 1) = machS N (fndN N m) ∧ fndN N m' = fndN N m := by
  obtain ⟨h1, h2⟩ := mach_done h
  have e := h2 (m' + 1 - fndN N m)
  rw [show fndN N m + (m' + 1 - fndN N m) = m' + 1 by omega] at e
  exact ⟨e, by rw [fndN, e, h1]⟩
theorem fnd_pos (N : NetM) (m : Nat) : 0 < fndN N m := by
  have := (outS_pre (goN N) (tokenM N) (widN N) (Nat.zero_le (m + 1))).length_le
  exact Nat.lt_of_lt_of_le (by simp [outS]) this
theorem fnd_less {N : NetM} {m m' : Nat} (h : fndN N m ≤ m) (h' : m' < fndN N m) : m' < fndN N m' := by
  refine Nat.lt_of_not_le fun hle => ?_
  have := (fnd_same (m' := m) hle (by
    have := (fnd_pos N m'); omega)).2
  omega
theorem fnd_more {N : NetM} {m m' : Nat} (h : m' ≤ m) (hm : m < fndN N m) : m' < fndN N m' := by
  refine Nat.lt_of_not_le fun hle => ?_
  have := (fnd_same (m' := m) hle (by omega)).2
  omega

/-- the answer's error -/
def errB (N : NetM) (most : Int) : Int := if rightB N = false then 3 else if most < 1 ∨ 4096 < most then 2 else if most < fndN N most.toNat then 16 else 0
/-- no machine -/
def noneD : DfaM := ⟨fun _ => 0, 0, [], []⟩
def machB (N : NetM) (most : Int) : DfaM := if errB N most = 0 then machM N (fndN N most.toNat) else noneD
def cntB (N : NetM) (most : Int) : Int := if errB N most = 0 then fndN N most.toNat else 0
theorem errB_ok {N : NetM} {most : Int} (h : errB N most = 0) : rightB N = true ∧ 1 ≤ most ∧ most ≤ 4096 ∧ (fndN N most.toNat : Int) ≤ most := by
  unfold errB at h
  split at h
  · omega
  · rename_i h1
    split at h
    · omega
    · split at h
      · omega
      · refine ⟨by cases e : rightB N <;> simp_all, ?_, ?_, ?_⟩ <;> omega
theorem machB_right {N : NetM} {most : Int} (h : errB N most = 0) : rightD (machB N most) = true := by
  obtain ⟨_, h1, h2, h3⟩ := errB_ok h
  unfold machB
  rw [if_pos h]
  exact mach_right (mach_done (show fndN N most.toNat ≤ most.toNat by omega)).1
/-- with as many as there are -/
theorem build_exact {N : NetM} {most : Int} (h : errB N most = 0) : errB N (cntB N most) = 0 ∧ cntB N (cntB N most) = cntB N most ∧ machB N (cntB N most) = machB N most ∧
    errB N (cntB N most - 1) = (if 1 < cntB N most then 16 else 2) ∧ 1 ≤ cntB N most ∧ ((machB N most).next.length : Int) = cntB N most := by
  obtain ⟨hr, h1, h2, h3⟩ := errB_ok h
  have hc : cntB N most = fndN N most.toNat := by unfold cntB; rw [if_pos h]
  have hm : machB N most = machM N (fndN N most.toNat) := by unfold machB; rw [if_pos h]
  have hp := fnd_pos N most.toNat
  obtain ⟨K, hK⟩ : ∃ K, K = fndN N most.toNat := ⟨_, rfl⟩
  have hle : fndN N most.toNat ≤ most.toNat := by omega
  have hs := (fnd_same (m' := K) hle (by omega)).2
  have hd := (mach_done hle).1
  rw [hc, hm]
  rw [← hK] at h3 hp hs hd ⊢
  have he : errB N (K : Int) = 0 := by
    unfold errB
    rw [if_neg (by simp [hr]), if_neg (by omega), if_neg (by rw [Int.toNat_natCast, hs]; omega)]
  refine ⟨he, ?_, ?_, ?_, by omega, ?_⟩
  · unfold cntB; rw [if_pos he, Int.toNat_natCast, hs]
  · unfold machB; rw [if_pos he, Int.toNat_natCast, hs]
  · unfold errB
    rw [if_neg (by simp [hr])]
    by_cases e : 1 < K
    · rw [if_neg (by omega), if_pos (show (1 : Int) < (K : Int) by omega), if_pos]
      have := fnd_less (m' := K - 1) hle (by omega)
      rw [show ((K : Int) - 1).toNat = K - 1 by omega]
      omega
    · rw [if_pos (by omega), if_neg (show ¬ (1 : Int) < (K : Int) by omega)]
  · show (((machS N K).2.1.length : Nat) : Int) = K
    rw [(mach_lens hd).1]
/-- refused for the number of states: refused with less, too -/
theorem build_less {N : NetM} {most less : Int} (h : errB N most = 16) (h1 : 1 ≤ less) (h2 : less ≤ most) : errB N less = 16 := by
  unfold errB at h ⊢
  split at h
  · omega
  · rename_i hr
    split at h
    · omega
    · split at h
      · rename_i h3 h4
        have := fnd_more (N := N) (m := most.toNat) (m' := less.toNat) (by omega) (by omega)
        rw [if_neg hr, if_neg (by omega), if_pos (by omega)]
      · omega
end Go.Proofs.YtmpjjnjggihojaaGreatDoor
