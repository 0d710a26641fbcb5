/- Contract of the program's Of. -/
import Derived.Test.YtanjpajnciifiaaKiDiv
import Derived.Test.YtanjpajnciifiaaKiROf
import Derived.Test.YtanjpajnciifiaaKiWid
import Derived.Test.YtanjpajnciifiaaTypedT
namespace Go.Proofs.Ytanjpajnciifiaa
open Go.RowKit
attribute [local go_sem] Rl.evalR_tmp Rl.evalR_const Rl.evalR_global Rl.evalR_func

/-- a whole array is loaded, in a region met operation by operation -/
theorem does_load_arr {o : Oper} {ρ : Tmp → Value} {w : World} {Kv : Value → World → Prop} {x : Tmp} {B : Nat} {v : Nat → Value} (ho : o.op = .load 24 (.tmp x)) (hx : ρ x = .pointer (some ⟨B, 0, none⟩)) (hA : ArrAt w B 24 v) (h : Kv (.agg (cellsN v)) w) : Rl.Does Try.prog o ρ w Kv := by
  have hl := run_loadVar_row (P := Try.prog) w B 24 24 _ (0, 0) _ hA Try.underlying24 rfl (by rw [cellsN_size]; exact size_arr)
  unfold Rl.Does execOp
  simp only [ho, Rl.evalR_tmp, hx, Instr.loadAt, Instr.sureAddr, Sem.run_bind, Sem.run_pure, Result.andThen_ok, hl]
  exact h

/-- the classes behind k sets -/
def ofK (fs : List (Nat → Bool)) (k : Nat) (b : Nat) : Nat := clsK (keyL (fs.take k)) b
theorem ofK_lt (fs : List (Nat → Bool)) (k : Nat) {b : Nat} (h : b < 256) : ofK fs k b < 256 :=
  Nat.lt_of_lt_of_le (cls_lt _ h) (cnt_le _ 256)
theorem ofK_none (fs : List (Nat → Bool)) (b : Nat) : ofK fs 0 b = 0 := by
  have h : fstK (keyL (fs.take 0)) b = 0 := fst_eq _ rfl fun x hx => by omega
  unfold ofK clsK
  rw [h]
  rfl
theorem ofK_split {fs : List (Nat → Bool)} {k : Nat} (hk : k < fs.length) {b : Nat} (hb : b < 256) : clsK (key2 (ofK fs k) (fs.getD k fNone)) b = ofK fs (k + 1) b :=
  cls_congr (n := 256) (fun x y _ _ => by
    unfold key2 ofK
    rw [Prod.mk.injEq, cls_key, keyL_pair hk]) hb
theorem ofK_same {fs : List (Nat → Bool)} {k : Nat} (hk : k < fs.length) (h : ∀ a b, a < 256 → b < 256 → ofK fs k a = ofK fs k b → fs.getD k fNone a = fs.getD k fNone b) {b : Nat} (hb : b < 256) : ofK fs k b = ofK fs (k + 1) b :=
  cls_congr (n := 256) (fun x y hx hy => by
    rw [keyL_pair hk]
    exact ⟨fun e => ⟨e, h x y hx hy ((cls_key _).2 e)⟩, fun e => e.1⟩) hb
theorem ofK_all (fs : List (Nat → Bool)) (b : Nat) : ofK fs fs.length b = clsK (keyL fs) b := by
  unfold ofK
  rw [List.take_length]
theorem wid_congr {g h : Nat → Nat} : ∀ {n : Nat}, (∀ j, j < n → g j = h j) → wid g n = wid h n
  | 0, _ => rfl
  | n + 1, e => by
    show max (wid g n) (g n + 1) = max (wid h n) (h n + 1)
    rw [wid_congr fun j hj => e j (by omega), e n (by omega)]
theorem wid_cls {κ : Type} [DecidableEq κ] (k : Nat → κ) : ∀ n, wid (clsK k) n = cntK k n
  | 0 => rfl
  | n + 1 => by
    show max (wid (clsK k) n) (clsK k n + 1) = _
    rw [wid_cls k n]
    by_cases e : fstK k n = n
    · rw [cls_new k e, cnt_new k e]; omega
    · have := cls_old k e
      rw [cnt_old k e]; omega

set_option maxHeartbeats 1000000 in
set_option maxRecDepth 100000 in
theorem of_calls (l : Option Addr) (len cap : Nat) (fs : List (Nat → Bool)) (w : World) (hl : len ≤ 9223372036854775807) (hS : Sets w l len fs) :
    Calls Try.prog 8 #[.slice l len cap] w fun e w' => e = .returned (.tuple #[ar (clsK (keyL fs)), .int .i64 (cntK (keyL fs) 256)]) ∧ Below w.heap.size w w' := by
  have HS := hidden hS
  have HN := hidden hS.1
  clear hS
  have hal := run_zero_arr
  go_enter Try.func8, Try.ntmps8
  go_wp2
  go_loopw [9] (fun i wr => ∃ k : Nat, k ≤ len ∧ i = .int .i64 k ∧ ArrAt wr w.heap.size 24 (nV fun _ => 0) ∧ ArrAt wr (w.heap.size + 1) 24 (nV (ofK fs k)) ∧ Below w.heap.size w wr ∧ w.heap.size + 2 ≤ wr.heap.size) (fun i _ => len - (intOf i).toNat)
  case atStart =>
    have hP := ArrAt.newAt (t := 24) (v := nV fun _ => 0) (show (w.alloc (.cells (cellsN (nV fun _ => 0)) 24)).heap.size = w.heap.size + 1 by simp)
    exact ⟨0, by omega, rfl, (ArrAt.new _ _ _).alloc _, hP.congr fun j _ => by unfold nV; rw [ofK_none], by go_grown, by simp⟩
  case round =>
    obtain ⟨k, hk, rfl, h1, h2, h5, h6⟩ := hrel
    have H1 := hidden h1
    have H2 := hidden h2
    have H5 := hidden h5
    clear h1 h2 h5
    by_cases hlt : k < len
    · obtain ⟨b, off, rfl, hbl, e0, e1, e2, e3⟩ := (HS.out.below H5.out).at' hlt
      obtain ⟨f, hf⟩ : ∃ f, f = fs.getD k fNone := ⟨_, rfl⟩
      rw [← hf] at e0 e1 e2 e3
      have HF := hidden hf
      clear hf
      go_wp2_with (refine load_arr rfl (x := .tmp 4) rfl (B := w.heap.size + 1) rfl (H2.out.alloc _) ?_)
      refine (divides_calls (ofK fs k) f _ (fun j hj => ofK_lt fs k hj)).mono ?_
      rintro e w5 ⟨r, rfl, hr, hb5⟩
      have hba := (Below.refl wr.heap.size wr).alloc (Nat.le_refl _) (.cells #[.int .u64 (word (f) 0), .int .u64 (word (f) 1), .int .u64 (word (f) 2), .int .u64 (word (f) 3)] 32)
      have hbx5 := below_then hba (by simp) hb5
      have G0 := hidden ((SetAt.new wr f).below hb5)
      have G1 := hidden (H1.out.below hbx5)
      have G2 := hidden (H2.out.below hbx5)
      have G5 := hidden (below_then H5.out (by omega) hbx5)
      have g6 := hbx5.size
      clear hba hb5 hbx5 H1 H2 H5 e0 e1 e2 e3
      cases r with
      | true =>
        clear hr
        obtain ⟨p0, p1, p2, p3, _, _, _, _⟩ := G0.out.facts
        go_wp2_with (first
          | (refine load_arr rfl (x := .tmp 4) rfl (B := w.heap.size + 1) rfl G2.out ?_)
          | (refine (split_calls (ofK fs k) f _ (fun j hj => ofK_lt fs k hj)).mono ?_; rintro e w7 ⟨rfl, hb7⟩; have F1 := hidden (G1.out.below hb7); have F2 := hidden (G2.out.below hb7); have F5 := hidden (below_then G5.out (by omega) hb7); have f6 := hb7.size; clear hb7; dsimp only)
          | (refine store_arr rfl (x := .tmp 4) (y := .tmp 18) rfl (B := w.heap.size + 1) (clsK (key2 (ofK fs k) f)) rfl rfl F2.out ?_; intro w8 hw8 hs8))
        have e := hw8.out
        subst e
        refine ⟨⟨k + 1, by omega, by go_num, F1.out.otherRow (by omega) _, (F2.out.storedRow _).congr fun j hj => ?_, below_setRow F5.out (by omega) _, by rw [setRow_size]; omega⟩, by simp [intOf]; omega⟩
        unfold nV
        rw [HF.out, ofK_split (by rw [HN.out]; exact hlt) hj]
      | false =>
        have HR := hidden (hr rfl)
        clear hr
        go_wp2
        refine ⟨⟨k + 1, by omega, by go_num, G1.out, G2.out.congr fun j hj => ?_, G5.out, by omega⟩, by simp [intOf]; omega⟩
        unfold nV
        rw [ofK_same (by rw [HN.out]; exact hlt) (fun a b ha hb e => by have := HR.out a b ha hb e; rwa [HF.out] at this) hj]
    · obtain rfl : k = len := by omega
      go_wp2
      have HW0 := hidden (below_drawn (Below.refl wr.heap.size wr) 1)
      refine Rl.wp_region_stepsT (R := fun w1 w2 => Below w1.heap.size w1 w2) 3 (Rl.typ [Rl.Is (ar (ofK fs k)), Rl.Is (ar (ofK fs k)), Rl.Is (.int .i64 (wid (ofK fs k) 256))]) (fun w1 => Below wr.heap.size wr w1) (fun w => Below.refl _ _) (by kernel_rfl) (by kernel_rfl) (by kernel_rfl) (by kernel_rfl) (by kernel_rfl) (by kernel_rfl) ?mono HW0.out ?step ?last
      case mono =>
        refine Rl.typ_mono ?_
        simp only [List.forall_mem_cons]
        repeat' (first | exact (fun v w w' h _ => h) | (intro p hp; cases hp; done) | refine And.intro ?_ ?_)
      case step =>
        refine ⟨?_, ?_, ?_, trivial⟩
        · change Rl.StepOk _ _ _ _ _ _ _ _
          intro ρ w1 hF hW
          have e4 : ρ 4 = .pointer (some ⟨w.heap.size + 1, 0, none⟩) := hF 4 (by decide)
          exact does_load_arr rfl e4 (H2.out.under hW (by omega)) ⟨rfl, hW, Below.refl _ _⟩
        · change Rl.StepOk _ _ _ _ _ _ _ _
          intro ρ w1 hF hW
          have e4 : ρ 4 = .pointer (some ⟨w.heap.size + 1, 0, none⟩) := hF 4 (by decide)
          exact does_load_arr rfl e4 (H2.out.under hW (by omega)) ⟨rfl, hW, Below.refl _ _⟩
        · change Rl.StepOk _ _ _ _ _ _ _ _
          intro ρ w1 hF hW
          have e21 : ρ 21 = ar (ofK fs k) := hF 21 (by decide)
          clear hF
          have HW := hidden hW
          clear hW
          unfold Rl.Does
          go_simp
          refine (width_calls (ofK fs k) _ (fun j hj => ofK_lt fs k hj)).mono ?_
          rintro e w2 ⟨rfl, hb⟩
          exact ⟨_, rfl, rfl, below_then HW.out HW.out.size hb, hb⟩
      case last =>
        intro a1 w1 hs hv hW
        have h20 : a1.tmps.getD 20 undef = ar (ofK fs k) := hv 0 20 (by decide) (by kernel_rfl)
        have h22 : a1.tmps.getD 22 undef = .int .i64 (wid (ofK fs k) 256) := hv 2 22 (by decide) (by kernel_rfl)
        have hd := hs.defers
        have hz := hs.lit [20, 21, 22, 3] (by kernel_rfl)
        have G1 := hidden (H1.out.under hW (by omega))
        have G5 := hidden (below_then H5.out (by omega) hW)
        have hsw := hW.size
        clear hs hv hW
        obtain ⟨tm, df⟩ := a1
        simp only at hz hd h20 h22
        simp only [List.foldl_cons, List.foldl_nil, List.setIfInBounds_toArray, List.set_cons_zero, List.set_cons_succ] at hz
        rw [h20, h22] at hz
        generalize tm.getD 21 undef = u21 at hz
        generalize tm.getD 3 undef = u3 at hz
        clear h20 h22
        subst hz hd
        refine Rl.wpOp_of_list2 rfl rfl rfl rfl ?_
        go_wp2_with (refine store_arr rfl (x := .tmp 2) (y := .tmp 20) rfl (B := w.heap.size) (ofK fs k) rfl rfl G1.out ?_; intro w8 hw8 hs8)
        have e := hw8.out
        subst e
        have he : ofK fs k = clsK (keyL fs) := funext fun b => by rw [← HN.out]; exact ofK_all fs b
        exact ret_arr2 (x := .int .i64 (wid (ofK fs k) 256)) Try.results8 rfl rfl rfl (G1.out.storedRow (nV (ofK fs k))) (fun n hn => rfl) ⟨by rw [he, wid_cls], below_setRow G5.out (by omega) _⟩
end Go.Proofs.Ytanjpajnciifiaa
