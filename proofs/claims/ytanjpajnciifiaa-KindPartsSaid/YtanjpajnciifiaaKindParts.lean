/- KindParts (P1304), for every input: the classes of at most 40 sets are those of none, split by each of them; each split makes not fewer, and at most twice as many. -/
import Derived.Test.YtanjpajnciifiaaKiOpen
import Derived.Test.YtanjpajnciifiaaLater
namespace Go.Proofs.Ytanjpajnciifiaa.lawKindParts
open Go.ChangeShapes Go.WideShapes Go.ChangeAt Go.RowKit
attribute [local go_sem] evalR_tmp evalR_const evalR_global evalR_func

/-- a whole array is loaded, in a region that only reads -/
theorem quiet_load_arr {C : World → Prop} {o : Oper} {a : Act} {K : Act → Prop} {x : Operand} (ho : o.op = .load 24 x) {B : Nat} {v : Nat → Value} (hx : a.eval x = .pointer (some ⟨B, 0, none⟩)) (hA : ∀ w, C w → ArrAt w B 24 v)
    (h : K (a.put o.dst (.agg (cellsN v)))) : o.quiet Try.prog a C K :=
  ⟨.agg (cellsN v), fun w hw => by
    have hl := run_loadVar_row (P := Try.prog) w B 24 24 _ (0, 0) _ (hA w hw) Try.underlying24 rfl (by rw [cellsN_size]; exact size_arr)
    unfold Oper.quietAt execOp
    simp only [ho, hx, Instr.loadAt, Instr.sureAddr, Sem.run_bind, Sem.run_pure, Result.andThen_ok, hl]
    exact ⟨rfl, rfl⟩, h⟩

theorem more_le {fs : List (Nat → Bool)} {k : Nat} (hk : k < fs.length) : wid (ofK fs k) 256 ≤ wid (ofK fs (k + 1)) 256 ∧ wid (ofK fs (k + 1)) 256 ≤ 2 * wid (ofK fs k) 256 := by
  have e1 : wid (ofK fs k) 256 = cntK (keyL (fs.take k)) 256 := wid_cls _ _
  have e2 : wid (ofK fs (k + 1)) 256 = cntK (keyL (fs.take (k + 1))) 256 := wid_cls _ _
  have e3 : cntK (keyL (fs.take (k + 1))) 256 = cntK (fun a => (keyL (fs.take k) a, fs.getD k fNone a)) 256 :=
    cnt_congr (n := 256) (fun x y _ _ => by rw [keyL_pair hk, Prod.mk.injEq]) (Nat.le_refl _)
  rw [e1, e2, e3]
  exact ⟨pair_ge _ _ _, pair_le _ _ _⟩

/-- what the split leaves in its operations -/
def Lsp (fs : List (Nat → Bool)) (k : Nat) (b off len cap n : Nat) (f : Nat → Bool) : List (Value → World → Prop) :=
  [Is (ar (ofK fs k)), Is (.slice (some ⟨b, off, none⟩) len cap), Is (.int .i64 (k : Int)), Is (.pointer (some ⟨b, off + k * 4, none⟩)), Is (.agg #[.int .u64 (word (f) 0), .int .u64 (word (f) 1), .int .u64 (word (f) 2), .int .u64 (word (f) 3)]), Is (ar (ofK fs (k + 1))),
    fun v w => ∃ B : Nat, v = .pointer (some ⟨B, 0, none⟩) ∧ ArrAt w B 24 (nV fun _ => 0) ∧ n ≤ B]

theorem Lsp.mono (fs : List (Nat → Bool)) (k : Nat) (b off len cap n : Nat) (f : Nat → Bool) : ∀ p ∈ Lsp fs k b off len cap n f, ∀ v w w', p v w → Below w.heap.size w w' → p v w' := by
  unfold Lsp
  simp only [List.forall_mem_cons]
  repeat' (first | exact (fun v w w' h _ => h) | (intro p hp; cases hp; done) | refine And.intro ?_ ?_)
  rintro v w w' ⟨B, h1, h2, h3⟩ hb
  exact ⟨B, h1, h2.below hb, h3⟩
/-- a whole array is loaded, in a region met operation by operation -/
theorem does_load {o : Oper} {ρ : Tmp → Value} {w : World} {Kv : Value → World → Prop} {x : Tmp} {B : Nat} {v : Nat → Value} (ho : o.op = .load 24 (.tmp x)) (hx : ρ x = .pointer (some ⟨B, 0, none⟩)) (hA : ArrAt w B 24 v) (h : Kv (.agg (cellsN v)) w) : Does Try.prog o ρ w Kv := by
  have hl := run_loadVar_row (P := Try.prog) w B 24 24 _ (0, 0) _ hA Try.underlying24 rfl (by rw [cellsN_size]; exact size_arr)
  unfold Does execOp
  simp only [ho, evalR_tmp, hx, Instr.loadAt, Instr.sureAddr, Sem.run_bind, Sem.run_pure, Result.andThen_ok, hl]
  exact h
/-- the frame behind a region: as it was, but for the region's own slots -/
theorem still_lit {ops : Array Oper} {a0 a : Act} (h : Still ops a0 a) (ds : List Nat) (hds : ops.toList.filterMap (·.dst) = ds) : a.tmps = ds.foldl (fun t d => t.setIfInBounds d (a.tmps.getD d undef)) a0.tmps := by
  apply Array.ext_getElem?
  intro i
  rcases Nat.lt_or_ge i a0.tmps.size with hi | hi
  · rw [Rl.foldl_put_at (fun d => a.tmps.getD d undef) i ds _ hi]
    have hi' : i < a.tmps.size := by rw [h.size]; exact hi
    by_cases hm : i ∈ ds
    · rw [if_pos hm]
      simp [Array.getD_eq_getD_getElem?, hi']
    · rw [if_neg hm]
      have h1 := h.slot i (by
        rw [Array.all_eq_true_iff_forall_mem]
        intro o ho
        simp only [bne_iff_ne, ne_eq]
        intro e
        apply hm
        rw [← hds, List.mem_filterMap]
        exact ⟨o, by simpa using ho, e⟩)
      simp only [Array.getD_eq_getD_getElem?, Array.getElem?_eq_getElem hi, Array.getElem?_eq_getElem hi', Option.getD_some] at h1
      rw [Array.getElem?_eq_getElem hi, Array.getElem?_eq_getElem hi', h1]
  · rw [Array.getElem?_eq_none (by rw [h.size]; exact hi), Array.getElem?_eq_none (by rw [Rl.foldl_put_size (fun d => a.tmps.getD d undef)]; exact hi)]

set_option maxHeartbeats 1000000 in
set_option maxRecDepth 100000 in
theorem walk (a : Option Addr) (len cap : Nat) (fs : List (Nat → Bool)) (w : World) (hh : cap ≤ maxLen ∧ len ≤ cap ∧ Sets w a len fs) :
    Calls Try.prog 6 #[.slice a len cap] w fun e w' => e = .returned (.bool true) ∧ Below w.heap.size w w' := by
  obtain ⟨hcap, hlen, hS⟩ := hh
  unfold maxLen at hcap
  have HS := hidden hS
  have HN := hidden hS.1
  clear hS
  have hal := run_zero_arr
  have hbu := run_build_arr
  by_cases h40 : 40 < len
  · go_enter Try.func6, Try.ntmps6
    go_wp2_with fail
    refine (knows_calls _).mono ?_
    rintro e w1 ⟨rfl, hb1⟩
    go_wp2
    go_ret
    exact ⟨rfl, hb1⟩
  · have HLT := hidden (fun k => show ∀ j, j < 256 → ofK fs k j < 256 from fun j hj => ofK_lt fs k hj)
    have HO := hidden (ArrAt.new w 24 (nV fun _ => 0))
    go_enter Try.func6, Try.ntmps6
    go_wp2_with (refine store_arr rfl (x := .tmp 3) (y := .tmp 12) rfl (B := w.heap.size) (fun _ => 0) rfl rfl HO.out ?_; intro w2 hw2 hs2)
    have HW : Hid (ArrAt w2 w.heap.size 24 (nV fun _ => 0) ∧ Below w.heap.size w w2 ∧ w.heap.size + 1 ≤ w2.heap.size) := by
      have e := hw2.out
      subst e
      exact ⟨HO.out.storedRow _, below_setRow (by go_grown) (by omega) _, by rw [setRow_size]; simp⟩
    clear hw2 hs2 HO
    go_wp2
    go_loopw [4] (fun i wr => ∃ k : Nat, k ≤ len ∧ i = .int .i64 k ∧ ArrAt wr w.heap.size 24 (nV (ofK fs k)) ∧ Below w.heap.size w wr ∧ w.heap.size + 1 ≤ wr.heap.size) (fun i _ => len - (intOf i).toNat)
    case atStart =>
      obtain ⟨h1, h2, h3⟩ := HW.out
      exact ⟨0, by omega, rfl, h1.congr fun j _ => by unfold nV; rw [ofK_none], h2, h3⟩
    case round =>
      obtain ⟨k, hk, rfl, h1, h5, h6⟩ := hrel
      have H1 := hidden h1
      have H5 := hidden h5
      clear h1 h5
      by_cases hlt : k < len
      · obtain ⟨b, off, rfl, hbl, e0, e1, e2, e3⟩ := (HS.out.below H5.out).at' hlt
        obtain ⟨f, hf⟩ : ∃ f, f = fs.getD k fNone := ⟨_, rfl⟩
        rw [← hf] at e0 e1 e2 e3
        have HSP := hidden (fun w' => (split_calls (ofK fs k) f w' (HLT.out k)).mono fun e w'' (h : e = .returned (ar (clsK (key2 (ofK fs k) f))) ∧ Below w'.heap.size w' w'') => show e = .returned (ar (ofK fs (k + 1))) ∧ Below w'.heap.size w' w'' from ⟨h.1.trans (by rw [ar_congr (h := ofK fs (k + 1)) fun j hj => by rw [hf, ofK_split (by rw [HN.out]; exact hlt) hj]]), h.2⟩)
        have HC := hidden (show ∀ w', Below wr.heap.size wr w' → w'.cell? ⟨b, off + k * 4, none⟩ = some (.int .u64 (word f 0)) ∧ w'.cell? ⟨b, off + k * 4 + 1, none⟩ = some (.int .u64 (word f 1)) ∧ w'.cell? ⟨b, off + k * 4 + 2, none⟩ = some (.int .u64 (word f 2)) ∧ w'.cell? ⟨b, off + k * 4 + 3, none⟩ = some (.int .u64 (word f 3)) from
          fun w' hb => ⟨(hb.cell (p := ⟨b, _, none⟩) hbl).trans e0, (hb.cell (p := ⟨b, _, none⟩) hbl).trans e1, (hb.cell (p := ⟨b, _, none⟩) hbl).trans e2, (hb.cell (p := ⟨b, _, none⟩) hbl).trans e3⟩)
        have HML := hidden (more_le (fs := fs) (k := k) (by rw [HN.out]; exact hlt))
        have hlt' : (k : Int) < len := by omega
        clear e0 e1 e2 e3 hf
        go_wp2
        have HW0 := hidden (below_drawn (Below.refl wr.heap.size wr) 1)
        refine wp_region_stepsL 7 (typ (Lsp fs k b off len cap wr.heap.size f)) (fun w1 => Below wr.heap.size wr w1) (by kernel_rfl) (by kernel_rfl) (by kernel_rfl) (by kernel_rfl) (by kernel_rfl) (by kernel_rfl) (typ_mono (Lsp.mono fs k b off len cap wr.heap.size f)) HW0.out ?step ?last
        case step =>
          refine ⟨?_, ?_, ?_, ?_, ?_, ?_, ?_, trivial⟩
          · change StepOk _ _ _ _ _ _ _
            intro ρ w1 hF hW
            have e3 : ρ 3 = .pointer (some ⟨w.heap.size, 0, none⟩) := hF 3 (by decide)
            exact does_load rfl e3 (H1.out.under hW (by omega)) ⟨rfl, hW, Below.refl _ _⟩
          · change StepOk _ _ _ _ _ _ _
            intro ρ w1 hF hW
            have e0 : ρ 0 = .slice (some ⟨b, off, none⟩) len cap := hF 0 (by decide)
            have HW := hidden hW
            clear hF hW
            unfold Does
            go_simp
            exact ⟨rfl, HW.out, Below.refl _ _⟩
          · change StepOk _ _ _ _ _ _ _
            intro ρ w1 hF hW
            have e4 : ρ 4 = .int .i64 (k : Int) := hF 4 (by decide)
            have HW := hidden hW
            clear hF hW
            unfold Does
            go_simp
            exact ⟨rfl, HW.out, Below.refl _ _⟩
          · change StepOk _ _ _ _ _ _ _
            intro ρ w1 hF hW
            have e20 : ρ 20 = .slice (some ⟨b, off, none⟩) len cap := hF 20 (by decide)
            have e21 : ρ 21 = .int .i64 (k : Int) := hF 21 (by decide)
            have HW := hidden hW
            clear hF hW
            unfold Does
            go_simp
            exact ⟨rfl, HW.out, Below.refl _ _⟩
          · change StepOk _ _ _ _ _ _ _
            intro ρ w1 hF hW
            have e22 : ρ 22 = .pointer (some ⟨b, off + k * 4, none⟩) := hF 22 (by decide)
            obtain ⟨c0, c1, c2, c3⟩ := HC.out w1 hW
            have HW := hidden hW
            clear hF hW
            unfold Does
            go_simp
            exact ⟨rfl, HW.out, Below.refl _ _⟩
          · change StepOk _ _ _ _ _ _ _
            intro ρ w1 hF hW
            have e19 : ρ 19 = ar (ofK fs k) := hF 19 (by decide)
            have e23 : ρ 23 = (.agg #[.int .u64 (word (f) 0), .int .u64 (word (f) 1), .int .u64 (word (f) 2), .int .u64 (word (f) 3)]) := hF 23 (by decide)
            have HW := hidden hW
            clear hF hW
            unfold Does
            go_simp
            refine (HSP.out _).mono ?_
            rintro e w2 ⟨rfl, hb⟩
            exact ⟨_, rfl, rfl, below_then HW.out HW.out.size hb, hb⟩
          · change StepOk _ _ _ _ _ _ _
            intro ρ w1 hF hW
            have HW := hidden hW
            clear hF hW
            unfold Does
            go_simp
            exact ⟨⟨_, rfl, ArrAt.new _ _ _, HW.out.size⟩, HW.out.alloc HW.out.size _, (Below.refl _ _).alloc (Nat.le_refl _) _⟩
        case last =>
          intro a1 w1 hs hv hW
          have h24 : a1.tmps.getD 24 undef = ar (ofK fs (k + 1)) := hv 5 24 (by decide) (by kernel_rfl)
          obtain ⟨B, h5b, hB, hBn⟩ : ∃ B : Nat, a1.tmps.getD 5 undef = .pointer (some ⟨B, 0, none⟩) ∧ ArrAt w1 B 24 (nV fun _ => 0) ∧ wr.heap.size ≤ B := hv 6 5 (by decide) (by kernel_rfl)
          have hd := hs.defers
          have hz := still_lit hs [19, 20, 21, 22, 23, 24, 5] (by kernel_rfl)
          have G1 := hidden (H1.out.under hW (by omega))
          have G5 := hidden (below_then H5.out (by omega) hW)
          have HB := hidden hB
          have hsw := hW.size
          have hBl := hB.lt
          clear hs hv hW hB
          obtain ⟨tm, df⟩ := a1
          simp only at hz hd h24 h5b
          simp only [List.foldl_cons, List.foldl_nil, List.setIfInBounds_toArray, List.set_cons_zero, List.set_cons_succ] at hz
          rw [h24, h5b] at hz
          generalize tm.getD 19 undef = u19 at hz
          generalize tm.getD 20 undef = u20 at hz
          generalize tm.getD 21 undef = u21 at hz
          generalize tm.getD 22 undef = u22 at hz
          generalize tm.getD 23 undef = u23 at hz
          clear h24 h5b
          subst hz hd
          refine wpOp_of_list rfl rfl ?_
          refine store_arr rfl (x := .tmp 5) (y := .tmp 24) rfl (B := B) (ofK fs (k + 1)) rfl rfl HB.out ?_
          intro w3 hw3 hs3
          have HX3 := hidden (show ArrAt w3 B 24 (nV (ofK fs (k + 1))) ∧ ArrAt w3 w.heap.size 24 (nV (ofK fs k)) ∧ Below w.heap.size w w3 from (by have e := hw3.out; subst e; exact ⟨HB.out.storedRow _, G1.out.otherRow (by omega) _, below_setRow G5.out (by omega) _⟩))
          clear hw3
          change wpList _ _ _ [] (⟨_, _⟩ : Act) w3
          go_wp2
          have HL5 := hidden (show ∀ w', (∃ p : Later w3, w' = p.at') → ArrAt w' B 24 (nV (ofK fs (k + 1))) from fun w' ⟨p, e⟩ => by subst e; exact HX3.out.1.below p.ok)
          have HL3 := hidden (show ∀ w', (∃ p : Later w3, w' = p.at') → ArrAt w' w.heap.size 24 (nV (ofK fs k)) from fun w' ⟨p, e⟩ => by subst e; exact HX3.out.2.1.below p.ok)
          obtain ⟨n1, hn1⟩ : ∃ n, n = wid (ofK fs (k + 1)) 256 := ⟨_, rfl⟩
          obtain ⟨n0, hn0⟩ : ∃ n, n = wid (ofK fs k) 256 := ⟨_, rfl⟩
          have hml := HML.out
          rw [← hn1, ← hn0] at hml
          have hmx := wid_le (ofK fs k) 256 256 (HLT.out k)
          rw [← hn0] at hmx
          have HW1 := hidden (fun w' => hn1 ▸ width_calls (ofK fs (k + 1)) w' (HLT.out (k + 1)))
          have HW2 := hidden (fun w' => hn0 ▸ width_calls (ofK fs k) w' (HLT.out k))
          have q1 : decide ((n1 : Int) < n0) = false := decide_eq_false (by omega)
          have q2 : IntKind.i64.wrap (2 * (n0 : Int)) = 2 * n0 := by rw [IntKind.wrap_i64]; omega
          have q3 : decide (2 * (n0 : Int) < n1) = false := decide_eq_false (by omega)
          have q4 : decide (n1 < n0) = false := decide_eq_false (by omega)
          clear hn1 hn0 hml hmx
          refine wp_region_later (by kernel_rfl) (by kernel_rfl) ?_
          repeat (first
            | (go_big_quiet_want; (first | (refine quiet_load_arr (x := .tmp 5) rfl (B := B) rfl HL5.out ?_) | (refine quiet_load_arr (x := .tmp 3) rfl (B := w.heap.size) rfl HL3.out ?_)); simp only [Act.put, List.setIfInBounds_toArray, List.set_cons_zero, List.set_cons_succ]; go_big_quiet_on)
            | go_big_quiet_step ((go_at_call 11; first | (with_reducible exact Later.calls (HW1.out _)) | (with_reducible exact Later.calls (HW2.out _)))))
          refine wpQuiet_nil ?_
          rintro _ ⟨⟨_, hb5⟩, rfl⟩
          rename_i w5
          have HX5 := hidden (show ArrAt w5 B 24 (nV (ofK fs (k + 1))) ∧ ArrAt w5 w.heap.size 24 (nV (ofK fs k)) ∧ Below w.heap.size w w5 ∧ w.heap.size + 1 ≤ w5.heap.size from ⟨HX3.out.1.below hb5, HX3.out.2.1.below hb5, below_after HX3.out.2.2 hb5, by have := hb5.size; omega⟩)
          clear hb5 q1 q2 q3 q4
          go_wp2_with (first
            | (refine load_arr rfl (x := .tmp 5) rfl (B := B) rfl HX5.out.1 ?_)
            | (refine store_arr rfl (x := .tmp 3) (y := .tmp 38) rfl (B := w.heap.size) (ofK fs (k + 1)) rfl rfl HX5.out.2.1 ?_; intro w6 hw6 hs6))
          have e := hw6.out
          subst e
          refine ⟨⟨k + 1, by omega, by go_num, HX5.out.2.1.storedRow _, below_setRow HX5.out.2.2.1 (by omega) _, by rw [setRow_size]; exact HX5.out.2.2.2⟩, by simp [intOf]; omega⟩
      · obtain rfl : k = len := by omega
        have he : ofK fs k = clsK (keyL fs) := funext fun b => by rw [← HN.out]; exact ofK_all fs b
        rw [he] at H1
        have HLC := hidden (he ▸ HLT.out k)
        have heq := fun w' => eq_same w' (g := clsK (keyL fs)) (h := clsK (keyL fs)) fun _ _ => rfl
        have HEQ := hidden heq
        clear heq he
        go_wp2_with fail
        refine (of_calls a k cap fs _ (by omega) (HS.out.below H5.out)).mono ?_
        rintro e w3 ⟨rfl, hb3⟩
        have HB3 := hidden (below_then H5.out (by omega) hb3)
        have HA3 := hidden (H1.out.below hb3)
        have HN3 := hidden (ArrAt.new w3 24 (nV fun _ => 0))
        have heq := HEQ.out
        clear hb3
        go_wp2_with (first
          | (refine store_arr rfl (x := .tmp 6) (y := .tmp 42) rfl (B := w3.heap.size) (clsK (keyL fs)) rfl rfl HN3.out ?_; intro w4 hw4 hs4; have HX4 := hidden (show ArrAt w4 w3.heap.size 24 (nV (clsK (keyL fs))) ∧ ArrAt w4 w.heap.size 24 (nV (clsK (keyL fs))) ∧ Below w.heap.size w w4 from (by have e := hw4.out; subst e; exact ⟨HN3.out.storedRow _, (HA3.out.alloc _).otherRow (fun e => by have := HA3.out.lt; omega) _, below_setRow (HB3.out.alloc HB3.out.size _) HB3.out.size _⟩)); clear hw4)
          | (refine load_arr rfl (x := .tmp 6) rfl (B := w3.heap.size) rfl HX4.out.1 ?_)
          | (refine load_arr rfl (x := .tmp 3) rfl (B := w.heap.size) rfl HX4.out.2.1 ?_))
        refine wp_load_arr (x := .tmp 3) rfl (B := w.heap.size) rfl HX4.out.2.1 ?_
        clear heq
        go_wp2_with fail
        refine (width_calls (clsK (keyL fs)) _ HLC.out).mono ?_
        rintro e w6 ⟨rfl, hb6⟩
        rw [wid_cls]
        have HB6 := hidden (below_after HX4.out.2.2 hb6)
        clear hb6
        go_wp2_with fail
        refine (knows_calls _).mono ?_
        rintro e w7 ⟨rfl, hb7⟩
        have HB7 := hidden (below_after HB6.out hb7)
        clear hb7
        go_wp2
        go_ret
        exact ⟨rfl, HB7.out⟩

set_option maxRecDepth 100000 in
theorem lifted (os : Os) (started : os.Started) (H : Type) (enc : TypeId × Value → H) :
    ReturnsInHanded {} Try.checked os 6 .any (Rows.kindPartsSpec.pre6 enc Try.prog Try.f6 Rows.kindPartsRow.domain false) (Rows.kindPartsSpec.post enc Try.prog Try.f6 false true false false) := by
  refine returnsInHanded_of_change (C := Try.checked) own started (by kernel_rfl) Try.func6
    (ChangeSpec.witness6 (enc := enc) (C := Try.checked) false ⟨#[], #[.slice none 0 0], []⟩ 8 (by kernel_rfl) (by kernel_rfl) (by kernel_rfl) (by kernel_rfl)) ?_
  intro W base args ds gs before hval0 hW hcnd _
  have hval : ∀ (j : Nat) t v, Try.f6.params[j]? = some t → args[j]? = some v → Value.okWide Try.prog W .any base t v := hval0
  have hW' : DataW.Whole enc Try.prog Try.f6.params.toList Rows.kindPartsSpec.vars false W args.toList ds gs before := hW
  obtain ⟨p, q, hA0, hV, rfl, hfz, hnd⟩ := hW
  have hA : DataW.TrodAll enc Try.prog W 0 (fun _ => true) true Try.f6.params.toList args.toList ds p := hA0
  have hlt : ∀ x ∈ p, x.block < W.heap.size := fun x hx => hW'.lt x (List.mem_append_left _ hx)
  rw [Try.params6] at hA hval
  obtain ⟨v0, vs0, d0, ds0, p0, q0, hargs, hd0, hp0, h0, r0⟩ := trodAll_cons hA
  obtain ⟨rfl, _, _⟩ := trodAll_nil r0
  obtain rfl : args = #[v0] := by cases args; simp_all
  obtain ⟨a0, len0, cap0, rfl⟩ := okWide_slice Try.underlying22 (hval 0 22 v0 rfl rfl)
  obtain ⟨z0, w0⟩ := open_sets h0
  refine (walk a0 len0 cap0 z0 W w0).mono fun e W' ⟨he, hb⟩ => ⟨_, he, ends_true hW' rfl (by kernel_rfl) ?_ (by kernel_rfl) hb⟩
  intro xs hxs
  match xs, hxs with
  | [_], _ => rfl

theorem proved : Rows.KindPartsSaid :=
  OpenClaim.holds_of_wide 6 Try.f6 rfl rfl rfl rfl rfl rfl rfl ⟨rfl, rfl, rfl, rfl, rfl⟩ rfl rfl rfl rfl rfl (by kernel_rfl) Try.func6 (by kernel_rfl)
    (of_decide_eq_true (by kernel_rfl)) (by unfold Func.isWrapper; first | (rw [if_pos (by decide +kernel)]; kernel_rfl) | (rw [if_neg (by decide +kernel)]; exact ⟨rfl, rfl⟩))
    (fun os started H enc _ => lifted os started H enc)
end Go.Proofs.Ytanjpajnciifiaa.lawKindParts
