/- KiMath, KiSets, KiROf, DfObj, put together. -/
import Derived.Test.YtnjjbaodfjmiaaaGreatLt01
import Derived.Test.YtnjjbaodfjmiaaaGreatLt05
import Derived.Test.YtnjjbaodfjmiaaaGreatLt19
import Derived.Test.YtnjjbaodfjmiaaaGreatLt23
import Derived.Laws.ResultCell
import Derived.Test.YtnjjbaodfjmiaaaGreatLt13
/- Classes of numbers by a key: two have one class just if they have one key; numbered in the order of their least ones. Of no program. -/
namespace Go.Proofs.YtnjjbaodfjmiaaaGreat

/-- from a on, n at most: the first that p holds of, or the one behind them all -/
def seek (p : Nat → Bool) : Nat → Nat → Nat
  | 0, a => a
  | n + 1, a => if p a then a else seek p n (a + 1)
theorem seek_le (p : Nat → Bool) : ∀ n a, seek p n a ≤ a + n
  | 0, a => Nat.le_refl a
  | n + 1, a => by
    unfold seek
    split
    · exact Nat.le_add_right _ _
    · have := seek_le p n (a + 1); omega
theorem seek_min (p : Nat → Bool) : ∀ n a x, a ≤ x → x < seek p n a → p x = false
  | 0, a, x, h1, h2 => by unfold seek at h2; omega
  | n + 1, a, x, h1, h2 => by
    unfold seek at h2
    split at h2
    · omega
    · rename_i hp
      by_cases hx : x = a
      · subst hx; simpa using hp
      · exact seek_min p n (a + 1) x (by omega) h2
theorem seek_get (p : Nat → Bool) : ∀ n a, p (a + n) = true → p (seek p n a) = true
  | 0, a, h => h
  | n + 1, a, h => by
    unfold seek
    split
    · assumption
    · exact seek_get p n (a + 1) (by rw [← h]; congr 1; omega)

variable {κ : Type} [DecidableEq κ]
/-- the least number of b's key -/
def fstK (k : Nat → κ) (b : Nat) : Nat := seek (fun a => decide (k a = k b)) b 0
theorem fst_le (k : Nat → κ) (b : Nat) : fstK k b ≤ b := by
  have := seek_le (fun a => decide (k a = k b)) b 0
  unfold fstK; omega
theorem fst_key (k : Nat → κ) (b : Nat) : k (fstK k b) = k b := by
  have := seek_get (fun a => decide (k a = k b)) b 0 (by simp)
  exact of_decide_eq_true this
theorem fst_min (k : Nat → κ) {a b : Nat} (h : a < fstK k b) : k a ≠ k b := by
  have := seek_min (fun a => decide (k a = k b)) b 0 a (Nat.zero_le a) h
  simpa using this
theorem fst_eq (k : Nat → κ) {a b : Nat} (h : k a = k b) (hm : ∀ x, x < a → k x ≠ k b) : fstK k b = a := by
  by_cases h1 : fstK k b < a
  · exact absurd (fst_key k b) (hm _ h1)
  by_cases h2 : a < fstK k b
  · exact absurd h (fst_min k h2)
  omega
theorem fst_same (k : Nat → κ) {a b : Nat} (h : k a = k b) : fstK k a = fstK k b :=
  fst_eq k ((fst_key k b).trans h.symm) fun x hx => by
    rw [h]; exact fst_min k hx
theorem fst_fst (k : Nat → κ) (b : Nat) : fstK k (fstK k b) = fstK k b := fst_same k (fst_key k b)
/-- below n: how many are the least of their key -/
def cntK (k : Nat → κ) : Nat → Nat
  | 0 => 0
  | n + 1 => cntK k n + if fstK k n = n then 1 else 0
theorem cnt_new (k : Nat → κ) {n : Nat} (h : fstK k n = n) : cntK k (n + 1) = cntK k n + 1 := by
  show cntK k n + (if fstK k n = n then 1 else 0) = _
  rw [if_pos h]
theorem cnt_old (k : Nat → κ) {n : Nat} (h : fstK k n ≠ n) : cntK k (n + 1) = cntK k n := by
  show cntK k n + (if fstK k n = n then 1 else 0) = _
  rw [if_neg h]; rfl
theorem cnt_step (k : Nat → κ) (n : Nat) : cntK k n ≤ cntK k (n + 1) ∧ cntK k (n + 1) ≤ cntK k n + 1 := by
  by_cases h : fstK k n = n
  · rw [cnt_new k h]; omega
  · rw [cnt_old k h]; omega
theorem cnt_mono (k : Nat → κ) {m n : Nat} (h : m ≤ n) : cntK k m ≤ cntK k n := by
  induction n with
  | zero => rw [Nat.le_zero.1 h]; exact Nat.le_refl _
  | succ n ih =>
    by_cases e : m = n + 1
    · rw [e]; exact Nat.le_refl _
    · exact Nat.le_trans (ih (by omega)) (cnt_step k n).1
theorem cnt_lt (k : Nat → κ) {m n : Nat} (h : m < n) (hm : fstK k m = m) : cntK k m < cntK k n := by
  have h1 := cnt_new k hm
  have h2 := cnt_mono k (show m + 1 ≤ n from h)
  omega
theorem cntK_le (k : Nat → κ) (n : Nat) : cntK k n ≤ n := by
  induction n with
  | zero => exact Nat.le_refl _
  | succ n ih => have := (cnt_step k n).2; omega
/-- the class of b -/
def clsK (k : Nat → κ) (b : Nat) : Nat := cntK k (fstK k b)
theorem cls_new (k : Nat → κ) {b : Nat} (h : fstK k b = b) : clsK k b = cntK k b := by unfold clsK; rw [h]
theorem cls_first (k : Nat → κ) (b : Nat) : clsK k (fstK k b) = clsK k b := by unfold clsK; rw [fst_fst]
theorem cls_same (k : Nat → κ) {a b : Nat} (h : k a = k b) : clsK k a = clsK k b := by unfold clsK; rw [fst_same k h]
theorem cls_lt (k : Nat → κ) {b n : Nat} (h : b < n) : clsK k b < cntK k n :=
  cnt_lt k (Nat.lt_of_le_of_lt (fst_le k b) h) (fst_fst k b)
theorem cls_key (k : Nat → κ) {a b : Nat} : clsK k a = clsK k b ↔ k a = k b := by
  constructor
  · intro h
    unfold clsK at h
    by_cases h1 : fstK k a < fstK k b
    · have := cnt_lt k h1 (fst_fst k a); omega
    by_cases h2 : fstK k b < fstK k a
    · have := cnt_lt k h2 (fst_fst k b); omega
    have e : fstK k a = fstK k b := by omega
    rw [← fst_key k a, e, fst_key k b]
  · exact cls_same k
/-- each number below the count is a class -/
theorem cls_all (k : Nat → κ) {c : Nat} : ∀ {n : Nat}, c < cntK k n → ∃ b, b < n ∧ fstK k b = b ∧ cntK k b = c
  | 0, h => by simp [cntK] at h
  | n + 1, h => by
    by_cases e : fstK k n = n
    · by_cases hc : c < cntK k n
      · obtain ⟨b, h1, h2⟩ := cls_all k hc
        exact ⟨b, by omega, h2⟩
      · rw [cnt_new k e] at h
        exact ⟨n, by omega, e, by omega⟩
    · rw [cnt_old k e] at h
      obtain ⟨b, h1, h2⟩ := cls_all k h
      exact ⟨b, by omega, h2⟩
/-- numbers below m, each once: m at most -/
theorem few (m : Nat) : ∀ (l : List Nat), l.Nodup → (∀ x ∈ l, x < m) → l.length ≤ m := by
  induction m with
  | zero =>
    intro l _ h
    cases l with
    | nil => exact Nat.le_refl _
    | cons x l => exact absurd (h x (by simp)) (Nat.not_lt_zero x)
  | succ m ih =>
    intro l hn h
    by_cases hm : m ∈ l
    · have h1 := ih (l.erase m) (hn.erase m) fun x hx => by
        have hx2 := (List.Nodup.mem_erase_iff hn).1 hx
        have := h x hx2.2
        have := hx2.1
        omega
      rw [List.length_erase_of_mem hm] at h1
      omega
    · have := ih l hn fun x hx => by
        have h1 := h x hx
        have h2 : x ≠ m := fun e => hm (e ▸ hx)
        omega
      omega
end Go.Proofs.YtnjjbaodfjmiaaaGreat

/- A slice of sets as it came in: its key; the reference's alike. -/
namespace Go.Proofs.YtnjjbaodfjmiaaaGreat
open Go.RowKit

/-- a slice of sets that reads as a list -/
def Sets (w : World) (a : Option Addr) (len : Nat) (fs : List (Nat → Bool)) : Prop :=
  fs.length = len ∧ (0 < len → ∃ b off, a = some ⟨b, off, none⟩ ∧ b < w.heap.size ∧ ∀ i, i < len → ∀ j, j < 4 → w.cell? ⟨b, off + i * 4 + j, none⟩ = some (.int .u64 (word (fs.getD i fNone) j)))
theorem Sets.below {a : Option Addr} {n : Nat} {fs : List (Nat → Bool)} {w w' : World} (h : Sets w a n fs) (hb : Below w.heap.size w w') : Sets w' a n fs := by
  refine ⟨h.1, fun hp => ?_⟩
  obtain ⟨b, off, e, hlt, hc⟩ := h.2 hp
  exact ⟨b, off, e, Nat.lt_of_lt_of_le hlt hb.size, fun i hi j hj => (hb.cell (p := ⟨b, _, none⟩) hlt).trans (hc i hi j hj)⟩
theorem Sets.at' {a : Option Addr} {n : Nat} {fs : List (Nat → Bool)} {w : World} (h : Sets w a n fs) {i : Nat} (hi : i < n) :
    ∃ b off, a = some ⟨b, off, none⟩ ∧ b < w.heap.size ∧ w.cell? ⟨b, off + i * 4, none⟩ = some (.int .u64 (word (fs.getD i fNone) 0)) ∧ w.cell? ⟨b, off + i * 4 + 1, none⟩ = some (.int .u64 (word (fs.getD i fNone) 1)) ∧
      w.cell? ⟨b, off + i * 4 + 2, none⟩ = some (.int .u64 (word (fs.getD i fNone) 2)) ∧ w.cell? ⟨b, off + i * 4 + 3, none⟩ = some (.int .u64 (word (fs.getD i fNone) 3)) := by
  obtain ⟨b, off, e, hlt, hc⟩ := h.2 (by omega)
  exact ⟨b, off, e, hlt, hc i hi 0 (by decide), hc i hi 1 (by decide), hc i hi 2 (by decide), hc i hi 3 (by decide)⟩

/-- which of the sets have it -/
def keyL (fs : List (Nat → Bool)) (b : Nat) : List Bool := fs.map fun f => f b
theorem keyL_eq {fs : List (Nat → Bool)} {a b : Nat} : keyL fs a = keyL fs b ↔ ∀ i, i < fs.length → fs.getD i fNone a = fs.getD i fNone b := by
  unfold keyL
  constructor
  · intro h i hi
    have := congrArg (fun l => l.getD i false) h
    simpa [List.getD_eq_getElem?_getD, hi] using this
  · intro h
    apply List.ext_getElem
    · simp
    · intro i h1 h2
      have := h i (by simpa using h1)
      have hi : i < fs.length := by simpa using h1
      simpa [List.getD_eq_getElem?_getD, hi] using this
set_option maxHeartbeats 1000000 in
set_option maxRecDepth 100000 in
theorem alike_calls (a : Option Addr) (len cap : Nat) (fs : List (Nat → Bool)) (x y : Nat) (w : World) (hl : len ≤ 9223372036854775807) (hx : x < 256) (hy : y < 256) (hS : Sets w a len fs) :
    Calls Tryz.prog 91 #[.slice a len cap, .int .i64 x, .int .i64 y] w fun e w' => e = .returned (.bool (decide (keyL fs x = keyL fs y))) ∧ Below w.heap.size w w' := by
  have HS := hidden hS
  have HN := hidden hS.1
  clear hS
  go_enter Tryz.func91, Tryz.ntmps91
  go_wp2
  go_loopw [7] (fun i wr => ∃ k : Nat, k ≤ len ∧ i = .int .i64 k ∧ (∀ i, i < k → fs.getD i fNone x = fs.getD i fNone y) ∧ Below w.heap.size w wr) (fun i _ => len - (Go.RowKit.intOf i).toNat)
  case atStart => exact ⟨0, by omega, rfl, fun i h => by omega, Below.refl _ _⟩
  case round =>
    obtain ⟨k, hk, rfl, hf, hb⟩ := hrel
    have HF := hidden hf
    have HB := hidden hb
    have hz := hb.size
    clear hf hb
    by_cases hlt : k < len
    · obtain ⟨b, off, rfl, hbl, e0, e1, e2, e3⟩ := (HS.out.below HB.out).at' hlt
      have d0 := fun (p : Later wr) => Later.cell e0 hbl p
      have d1 := fun (p : Later wr) => Later.cell e1 hbl p
      have d2 := fun (p : Later wr) => Later.cell e2 hbl p
      have d3 := fun (p : Later wr) => Later.cell e3 hbl p
      have wx : IntKind.u8.wrap (x : Int) = x := by rw [IntKind.wrap_u8]; omega
      have wy : IntKind.u8.wrap (y : Int) = y := by rw [IntKind.wrap_u8]; omega
      clear e0 e1 e2 e3
      obtain ⟨g, hg⟩ : ∃ g, g = fs.getD k fNone := ⟨_, rfl⟩
      rw [← hg] at d0 d1 d2 d3
      have HG := hidden hg
      clear hg
      cases hq : (g x != g y)
      · have hq1 : (g x == g y) = true := by simpa using hq
        go_wp2
        refine wp_region_later (by kernel_rfl) (by kernel_rfl) ?_
        repeat (go_big_quiet_step ((go_at_call 109; first | (with_reducible exact Later.calls (rhas_nat g x _ hx)) | (with_reducible exact Later.calls (rhas_nat g y _ hy)))))
        refine wpQuiet_nil ?_
        rintro _ ⟨⟨_, hb5⟩, rfl⟩
        rename_i w5
        have HB5 := hidden (below_then HB.out hz hb5)
        have HQ := hidden hq1
        clear hb5 d0 d1 d2 d3 hq hq1
        go_wp2
        go_roundw
        case rel => exact ⟨k + 1, by omega, by go_num, fun i hi => by
            by_cases e : i = k
            · subst e
              rw [← HG.out]
              simpa using HQ.out
            · exact HF.out i (by omega), HB5.out⟩
        case measure => simp [Go.RowKit.intOf]; omega
      · have hq1 : (g x == g y) = false := by simpa using hq
        go_wp2
        refine wp_region_later (by kernel_rfl) (by kernel_rfl) ?_
        repeat (go_big_quiet_step ((go_at_call 109; first | (with_reducible exact Later.calls (rhas_nat g x _ hx)) | (with_reducible exact Later.calls (rhas_nat g y _ hy)))))
        refine wpQuiet_nil ?_
        rintro _ ⟨⟨_, hb5⟩, rfl⟩
        rename_i w5
        have HB5 := hidden (below_then HB.out hz hb5)
        have HQ := hidden hq1
        clear hb5 d0 d1 d2 d3 hq hq1
        go_wp2
        go_ret
        refine ⟨ret_b ?_, HB5.out⟩
        symm
        rw [decide_eq_false_iff_not, keyL_eq]
        intro h
        have h2 := h k (by rw [HN.out]; exact hlt)
        rw [← HG.out] at h2
        have h3 := HQ.out
        rw [h2] at h3
        simp at h3
    · obtain rfl : k = len := by omega
      go_wp2
      go_ret
      refine ⟨ret_b ?_, HB.out⟩
      symm
      rw [decide_eq_true_iff, keyL_eq]
      intro i hi
      exact HF.out i (by rw [HN.out] at hi; exact hi)
end Go.Proofs.YtnjjbaodfjmiaaaGreat

/- Contract of the reference's Of. -/
namespace Go.Proofs.YtnjjbaodfjmiaaaGreat
open Go.RowKit

/-- results: an array in memory, and a number -/
theorem ret_arr2 {fn : Func} {R : Ending → World → Prop} {a : Act} {w : World} {B p u : Nat} {v : Nat → Value} {g : Nat → Nat} {x : Value} (h : fn.results = #[.cell p 22, .tmp u]) (hp : a.tmps.getD p undef = .pointer (some ⟨B, 0, none⟩))
    (hu : a.tmps.getD u undef = x) (hd : a.defers = []) (hS : ArrAt w B 22 v) (e : ∀ n, n < 256 → v n = nV g n) (hR : R (.returned (.tuple #[ar g, x])) w) : bodyPost Tryz.prog fn R .ret a w := by
  have hl := run_loadVar_row (P := Tryz.prog) w B 22 22 _ (0, 0) _ (hS.congr e) Tryz.underlying22 rfl (by rw [cellsN_size]; exact size_arr)
  refine bodyPost_ret (v := .tuple #[ar g, x]) ?_ hd hR
  rw [results_cell_tmp h, hp, hu]
  simp [asAddr, hl, Result.andThen]

set_option maxHeartbeats 1000000 in
set_option maxRecDepth 100000 in
theorem krof_calls (l : Option Addr) (len cap : Nat) (fs : List (Nat → Bool)) (w : World) (hl : len ≤ 9223372036854775807) (hS : Sets w l len fs) :
    Calls Tryz.prog 63 #[.slice l len cap] w fun e w' => e = .returned (.tuple #[ar (clsK (keyL fs)), .int .i64 (cntK (keyL fs) 256)]) ∧ Below w.heap.size w w' := by
  have HS := hidden hS
  clear hS
  have hal := run_zero_arr
  have hbu := run_build_arr
  have HO := hidden (show ArrAt ((w.alloc (.cells (cellsN (nV fun _ => 0)) 22)).alloc (.cells (cellsN (nV fun _ => 0)) 22)) (w.heap.size + 1) 22 (nV fun _ => 0) from ArrAt.newAt (by simp))
  go_enter Tryz.func63, Tryz.ntmps63
  go_wp2_with (refine store_arr rfl (x := .tmp 4) (y := .tmp 8) rfl (B := w.heap.size + 1) (fun _ => 0) rfl rfl HO.out ?_; intro w2 hw2 hs2)
  have z0 : w2.heap.size = w.heap.size + 2 := by rw [hs2]; simp
  have HW : Hid (ArrAt w2 w.heap.size 22 (nV fun _ => 0) ∧ ArrAt w2 (w.heap.size + 1) 22 (nV fun _ => 0) ∧ Below w.heap.size w w2) := by
    have e := hw2.out
    subst e
    exact ⟨((ArrAt.new _ _ _).alloc _).otherRow (by omega) _, HO.out.storedRow _, below_setRow (by go_grown) (by omega) _⟩
  clear hw2 hs2 HO
  go_wp2
  go_loopw [5, 6] (fun x i wr => ∃ b : Nat, b ≤ 256 ∧ x = .int .i64 (cntK (keyL fs) b) ∧ i = .int .i64 b ∧ ArrAt wr w.heap.size 22 (nV fun _ => 0) ∧ ArrAt wr (w.heap.size + 1) 22 (nV (upG (clsK (keyL fs)) b)) ∧ Below w.heap.size w wr ∧ w.heap.size + 2 ≤ wr.heap.size) (fun _ i _ => 256 - (Go.RowKit.intOf i).toNat)
  case atStart =>
    obtain ⟨h1, h4, h5⟩ := HW.out
    exact ⟨0, by omega, rfl, rfl, h1, h4.congr fun j _ => by unfold nV; rw [upG_none], h5, by omega⟩
  case round =>
    obtain ⟨b, hk, rfl, rfl, h1, h4, h5, h6⟩ := hrel
    have H1 := hidden h1
    have H4 := hidden h4
    have H5 := hidden h5
    by_cases hlt : b < 256
    · clear h1 h4 h5
      have hcn := cntK_le (keyL fs) b
      have hcs := cnt_step (keyL fs) b
      have hbd : decide ((b : Int) < 256) = true := decide_eq_true (by omega)
      go_wp2
      go_loopw [7] (fun i wr => ∃ a : Nat, a ≤ fstK (keyL fs) b ∧ i = .int .i64 a ∧ ArrAt wr w.heap.size 22 (nV fun _ => 0) ∧ ArrAt wr (w.heap.size + 1) 22 (nV (upG (clsK (keyL fs)) b)) ∧ Below w.heap.size w wr ∧ w.heap.size + 2 ≤ wr.heap.size) (fun i _ => fstK (keyL fs) b - (Go.RowKit.intOf i).toNat)
      case atStart => exact ⟨0, by omega, rfl, H1.out, H4.out, H5.out, h6⟩
      case round =>
        clear H1 H4 H5
        obtain ⟨a, ha, rfl, h1, h4, h5, h6⟩ := hrel
        have H1 := hidden h1
        have H4 := hidden h4
        have H5 := hidden h5
        have hfl := fst_le (keyL fs) b
        have hab : a < 256 := by omega
        clear h1 h4 h5
        go_wp2_with fail
        refine (alike_calls l len cap fs a b _ hl hab hlt (HS.out.below H5.out)).mono ?_
        rintro e w5 ⟨rfl, hb5⟩
        have G1 := hidden (H1.out.below hb5)
        have G4 := hidden (H4.out.below hb5)
        have G5 := hidden (below_then H5.out (by omega) hb5)
        have g6 := hb5.size
        clear hb5 H1 H4 H5
        by_cases hlf : a < fstK (keyL fs) b
        · rw [decide_eq_false (fst_min (keyL fs) hlf)]
          go_wp2
          go_roundw
          case rel => exact ⟨a + 1, by omega, by go_num, G1.out, G4.out, G5.out, by omega⟩
          case measure => simp [Go.RowKit.intOf]; omega
        · have hk2 := fst_key (keyL fs) b
          obtain rfl : a = fstK (keyL fs) b := by omega
          have HFF := hidden (cls_first (keyL fs) b)
          have HNEW := hidden (cls_new (keyL fs) (b := b))
          have HCO := hidden (cnt_old (keyL fs) (n := b))
          have HCN := hidden (cnt_new (keyL fs) (n := b))
          have hc2 : cntK (keyL fs) b ≤ 255 := by omega
          rw [decide_eq_true hk2]
          clear hk2 hlf
          generalize fstK (keyL fs) b = a at *
          by_cases hlab : a < b
          · have hcl := (G4.out.cell hab)
            unfold nV at hcl
            rw [upG_all _ hlab, HFF.out] at hcl
            have hfz := G4.out.frozen b
            have hco := G4.out.cell hlt
            go_wp2
            refine ⟨⟨b + 1, by omega, by rw [HCO.out (by omega)], by go_num, G1.out.other (by omega) _, (G4.out.stored b _).congr fun j _ => ?_, G5.out.setCell (by dsimp only; omega) _, Nat.le_trans (by omega) ((Below.refl 0 w5).setCell (Nat.zero_le _) _).size⟩, by simp [Go.RowKit.intOf]; omega⟩
            rw [putN_nV]
            unfold nV
            rw [upG_put]
          · obtain rfl : a = b := by omega
            have wn : IntKind.u8.wrap (cntK (keyL fs) a : Int) = cntK (keyL fs) a := by rw [IntKind.wrap_u8]; omega
            have hfz := G4.out.frozen a
            have hco := G4.out.cell hlt
            go_wp2
            refine ⟨⟨a + 1, by omega, by rw [HCN.out (by trivial)]; simp, by go_num, G1.out.other (by omega) _, (G4.out.stored a _).congr fun j _ => ?_, G5.out.setCell (by dsimp only; omega) _, Nat.le_trans (by omega) ((Below.refl 0 w5).setCell (Nat.zero_le _) _).size⟩, by simp [Go.RowKit.intOf]; omega⟩
            rw [putN_nV, ← HNEW.out (by trivial)]
            unfold nV
            rw [upG_put]
    · obtain rfl : b = 256 := by omega
      clear h1 h4 h5
      go_wp2_with (first
        | (refine load_arr rfl (x := .tmp 4) rfl (B := w.heap.size + 1) rfl H4.out ?_)
        | (refine store_arr rfl (x := .tmp 2) (y := .tmp 34) rfl (B := w.heap.size) (upG (clsK (keyL fs)) 256) rfl rfl H1.out ?_; intro w3 hw3 hs3))
      have HE : Hid (ArrAt w3 w.heap.size 22 (nV (upG (clsK (keyL fs)) 256)) ∧ Below w.heap.size w w3) := by
        have e := hw3.out
        subst e
        exact ⟨H1.out.storedRow _, below_setRow H5.out (by omega) _⟩
      exact ret_arr2 Tryz.results63 rfl rfl rfl HE.out.1 (fun n hn => by unfold nV; rw [upG_all _ hn]) ⟨rfl, HE.out.2⟩
end Go.Proofs.YtnjjbaodfjmiaaaGreat

/- A machine in memory: a block of 259 cells (the classes of all bytes, how many there are, the rows, the labels); as a value; what is loaded of it. -/
namespace Go.Proofs.YtnjjbaodfjmiaaaGreat
open Go.RowKit

/-- a machine -/
structure DfaM where
  cls : Nat → Nat
  width : Int
  next : List (List Int)
  label : List Int
/-- its cells -/
def dfaC (g : Nat → Nat) (wd : Int) (vn vl : Value) : Array Value := cellsN (nV g) ++ #[.int .i64 wd, vn, vl]
@[reducible] def dfaA (g : Nat → Nat) (wd : Int) (vn vl : Value) : Value := .agg (dfaC g wd vn vl)
theorem dfaC_size (g : Nat → Nat) (wd : Int) (vn vl : Value) : (dfaC g wd vn vl).size = 259 := by
  unfold dfaC
  rw [Array.size_append, cellsN_size]
  rfl
theorem dfaC_cls (g : Nat → Nat) (wd : Int) (vn vl : Value) {j : Nat} (h : j < 256) : (dfaC g wd vn vl)[j]? = some (nV g j) := by
  unfold dfaC
  rw [Array.getElem?_append_left (by rw [cellsN_size]; exact h), cellsN_get _ h]
theorem dfaC_rest (g : Nat → Nat) (wd : Int) (vn vl : Value) : (dfaC g wd vn vl)[256]? = some (.int .i64 wd) ∧ (dfaC g wd vn vl)[257]? = some vn ∧ (dfaC g wd vn vl)[258]? = some vl := by
  unfold dfaC
  refine ⟨?_, ?_, ?_⟩
  all_goals rw [Array.getElem?_append_right (by rw [cellsN_size]; omega), cellsN_size]
  all_goals rfl
/-- block B holds a machine -/
def DfaAt (w : World) (B : Nat) (g : Nat → Nat) (wd : Int) (vn vl : Value) : Prop := w.heap[B]? = some (.cells (dfaC g wd vn vl) 26 (0, 0))
section
variable {w w' : World} {B : Nat} {g : Nat → Nat} {wd : Int} {vn vl : Value}
theorem DfaAt.lt (h : DfaAt w B g wd vn vl) : B < w.heap.size := (Array.getElem?_eq_some_iff.1 h).1
theorem DfaAt.cls (h : DfaAt w B g wd vn vl) {j : Nat} (hj : j < 256) : w.cell? ⟨B, j, none⟩ = some (.int .u8 (g j : Int)) := (cell_of_row w B j _ _ _ h).trans (dfaC_cls g wd vn vl hj)
theorem DfaAt.width (h : DfaAt w B g wd vn vl) : w.cell? ⟨B, 256, none⟩ = some (.int .i64 wd) := (cell_of_row w B 256 _ _ _ h).trans (dfaC_rest g wd vn vl).1
theorem DfaAt.next (h : DfaAt w B g wd vn vl) : w.cell? ⟨B, 257, none⟩ = some vn := (cell_of_row w B 257 _ _ _ h).trans (dfaC_rest g wd vn vl).2.1
theorem DfaAt.label (h : DfaAt w B g wd vn vl) : w.cell? ⟨B, 258, none⟩ = some vl := (cell_of_row w B 258 _ _ _ h).trans (dfaC_rest g wd vn vl).2.2
theorem DfaAt.frozen (h : DfaAt w B g wd vn vl) (j : Nat) : w.frozen? ⟨B, j, none⟩ = false := frozen_of_row w B j _ _ h
theorem DfaAt.below (h : DfaAt w B g wd vn vl) (hb : Below w.heap.size w w') : DfaAt w' B g wd vn vl := (hb.block B h.lt).trans h
theorem DfaAt.under {n : Nat} (h : DfaAt w B g wd vn vl) (hb : Below n w w') (hn : B < n) : DfaAt w' B g wd vn vl := (hb.block B hn).trans h
theorem DfaAt.alloc (h : DfaAt w B g wd vn vl) (o : Obj) : DfaAt (w.alloc o) B g wd vn vl := (heap_alloc_old w o h.lt).trans h
theorem DfaAt.new (w : World) (g : Nat → Nat) (wd : Int) (vn vl : Value) : DfaAt (w.alloc (.cells (dfaC g wd vn vl) 26)) w.heap.size g wd vn vl := heap_alloc_new w _
theorem DfaAt.newAt (h : w.heap.size = B) : DfaAt (w.alloc (.cells (dfaC g wd vn vl) 26)) B g wd vn vl := by subst h; exact DfaAt.new w g wd vn vl
end
theorem size_dfa : (Tryz.prog.info? 26).map (·.size) = some 259 := by kernel_rfl
theorem run_box_dfa (g : Nat → Nat) (wd : Int) (vn vl : Value) (w : World) : (Instr.box 26 (dfaA g wd vn vl)).run Tryz.prog w = .ok (.pointer (some ⟨w.heap.size, 0, none⟩)) (w.alloc (.cells (dfaC g wd vn vl) 26)) := by
  simp [Instr.box, newVar, go_sem]
/-- the whole machine is loaded -/
theorem run_load_dfa {w : World} {B : Nat} {g : Nat → Nat} {wd : Int} {vn vl : Value} (h : DfaAt w B g wd vn vl) : (loadVar 26 ⟨B, 0, none⟩).run Tryz.prog w = .ok (dfaA g wd vn vl) w :=
  run_loadVar_row (P := Tryz.prog) w B 26 26 _ (0, 0) _ h Tryz.underlying26 rfl (by rw [dfaC_size]; exact size_dfa)
/-- its classes are loaded -/
theorem run_load_cls {w : World} {B : Nat} {g : Nat → Nat} {wd : Int} {vn vl : Value} (h : DfaAt w B g wd vn vl) : (loadVar 22 ⟨B, 0, none⟩).run Tryz.prog w = .ok (ar g) w := by
  have hl : (loadCells ⟨B, 0, none⟩ (cellsN (nV g)).toList.length).run Tryz.prog w = .ok (cellsN (nV g)).toList.toArray w :=
    run_loadCells_list (P := Tryz.prog) w ⟨B, 0, none⟩ (cellsN (nV g)).toList (fun j v hv => by
      have hadd : (⟨B, 0, none⟩ : Addr).add j = ⟨B, j, none⟩ := by unfold Addr.add; split <;> simp_all
      have hj : j < 256 := by
        have := (List.getElem?_eq_some_iff.1 hv).1
        rw [Array.length_toList, cellsN_size] at this
        exact this
      have e2 : (cellsN (nV g)).toList[j]? = some (nV g j) := by
        rw [Array.getElem?_toList]; exact cellsN_get _ hj
      rw [hadd, h.cls hj]
      rw [hv] at e2
      exact e2.symm)
  obtain ⟨i, hi⟩ : ∃ i, Tryz.prog.info? 22 = some i := Option.isSome_iff_exists.1 (by kernel_rfl)
  have hs : i.size = 256 := by
    have := size_arr
    rw [hi] at this
    simpa using this
  have hagg : (isAgg 22).run Tryz.prog w = .ok true w := by
    unfold isAgg
    rw [Sem.run_bind, run_underlying Tryz.underlying22 w]
    rfl
  rw [Array.length_toList, cellsN_size] at hl
  simp only [Array.toArray_toList] at hl
  simp [loadVar, Sem.run_bind, hagg, sizeOf, typeInfo, hi, hs, hl]
end Go.Proofs.YtnjjbaodfjmiaaaGreat
