/- LvLaw, LvRExM, LvREx, put together. -/
import Derived.Test.YtnjjbaodfjmiaaaGreatLt36
import Derived.Test.YtnjjbaodfjmiaaaGreatLt41
import Derived.Test.YtnjjbaodfjmiaaaGreatLt42
import Derived.Test.YtnjjbaodfjmiaaaGreatLt32
import Derived.Test.YtnjjbaodfjmiaaaGreatLt30
import Derived.Test.YtnjjbaodfjmiaaaGreatLt37
import Derived.Sort.Walk0
import Derived.Test.YtnjjbaodfjmiaaaGreatLt28
import Derived.Test.YtnjjbaodfjmiaaaGreatLt38
/- What the laws of stage 15 share: a machine as a value's kind. -/
namespace Go.Proofs.YtnjjbaodfjmiaaaGreat
open Go.RowKit Go.Lib Go.Joins
def RdDfaV (D : DfaM) (v : Value) (w : World) : Prop := ∃ vn vl, v = dfaA D.cls D.width vn vl ∧ RdDfa w.heap.size w vn vl D
theorem RdDfaV.below {D : DfaM} {v : Value} {w w' : World} (h : RdDfaV D v w) (hb : Below w.heap.size w w') : RdDfaV D v w' := by
  obtain ⟨vn, vl, e, h⟩ := h
  exact ⟨vn, vl, e, h.below hb hb.size⟩
theorem sameB_self (l : List Bool) : sameB l l = true := by simp [sameB]
end Go.Proofs.YtnjjbaodfjmiaaaGreat

/- Ahead of the reference's Example: words as texts, rows of words, and how long they are. -/
namespace Go.Proofs.YtnjjbaodfjmiaaaGreat
open Go.RowKit Go.Lib Go.Joins

def byW (u : List Nat) : ByteArray := ⟨(u.map UInt8.ofNat).toArray⟩
@[reducible] def sW (u : List Nat) : Value := .string (byW u)
theorem byW_nat {u : List Nat} (h : ∀ b ∈ u, b < 256) : (byW u).data.toList.map (·.toNat) = u := by
  unfold byW
  simp only [List.map_map]
  have : u.map ((fun x : UInt8 => x.toNat) ∘ UInt8.ofNat) = u.map id := List.map_congr_left fun b hb => by
    have := h b hb
    simp
    omega
  rw [this, List.map_id]
theorem byW_size (u : List Nat) : (byW u).size = u.length := by
  show ((u.map UInt8.ofNat).toArray).size = _
  simp
theorem byW_snoc (u : List Nat) (b : Nat) : byW u ++ ⟨#[UInt8.ofNat b]⟩ = byW (u ++ [b]) := by
  apply ByteArray.ext
  rw [ByteArray.data_append]
  unfold byW
  simp
theorem byW_inj {u v : List Nat} (hu : ∀ b ∈ u, b < 256) (hv : ∀ b ∈ v, b < 256) (h : byW u = byW v) : u = v := by
  rw [← byW_nat hu, ← byW_nat hv, h]
theorem lessW : ∀ x y : List UInt8, Op.bytesLess x y = lxB (x.map (·.toNat)) (y.map (·.toNat))
  | [], [] => rfl
  | _ :: _, [] => rfl
  | [], _ :: _ => rfl
  | a :: x, b :: y => by
    have h1 : decide (a < b) = decide (a.toNat < b.toNat) := decide_eq_decide.2 UInt8.lt_iff_toNat_lt
    have h2 : (a == b) = decide (a.toNat = b.toNat) := by
      by_cases h : a = b
      · subst h
        simp
      · rw [decide_eq_false fun e => h (UInt8.toNat_inj.1 e)]
        simpa using h
    show (decide (a < b) || (a == b && Op.bytesLess x y)) = (decide (a.toNat < b.toNat) || (decide (a.toNat = b.toNat) && lxB (x.map (·.toNat)) (y.map (·.toNat))))
    rw [h1, h2, lessW x y]
theorem less_by {u v : List Nat} (hu : ∀ b ∈ u, b < 256) (hv : ∀ b ∈ v, b < 256) : Op.bytesLess (byW u).toList (byW v).toList = lxB u v := by
  rw [lessW, Lib.toList_data, Lib.toList_data, byW_nat hu, byW_nat hv]
theorem emptyW {z : List Nat} : (byW z).toList.isEmpty = decide (z = []) := by
  rw [ByteArray.toList_eq]
  cases z <;> simp [byW]
theorem listW {z : List Nat} (h : z ≠ []) : ¬ (byW z).toList = [] := fun e => by
  have := emptyW (z := z)
  rw [e, decide_eq_false h] at this
  cases this
theorem listW0 {z : List Nat} (h : z = []) : (byW z).toList = [] := by
  have := emptyW (z := z)
  rw [decide_eq_true h] at this
  exact List.isEmpty_iff.1 this
/-- words of at most K bytes -/
def Wok (K : Nat) (u : List Nat) : Prop := u.length ≤ K ∧ ∀ b ∈ u, b < 256
def Sml (K : Nat) (l : List (List Nat)) : Prop := ∀ j, Wok K (l.getD j [])
theorem Wok.nil (K : Nat) : Wok K [] := ⟨Nat.zero_le _, fun b hb => by cases hb⟩
theorem Wok.mono {K L : Nat} {u : List Nat} (h : Wok K u) (hl : K ≤ L) : Wok L u := ⟨Nat.le_trans h.1 hl, h.2⟩
theorem Wok.snoc {K b : Nat} {u : List Nat} (h : Wok K u) (hb : b < 256) : Wok (K + 1) (u ++ [b]) :=
  ⟨by rw [List.length_append, List.length_singleton]; have := h.1; omega, fun x hx => by
    rcases List.mem_append.1 hx with e | e
    · exact h.2 x e
    · simp at e; omega⟩
theorem Sml.mono {K L : Nat} {l : List (List Nat)} (h : Sml K l) (hl : K ≤ L) : Sml L l := fun j => (h j).mono hl
theorem Sml.rep (K n : Nat) : Sml K (List.replicate n []) := fun j => by
  rw [List.getD_eq_getElem?_getD, List.getElem?_replicate]
  split <;> exact Wok.nil K
theorem Sml.set {K i : Nat} {l : List (List Nat)} {u : List Nat} (h : Sml K l) (hu : Wok K u) : Sml K (l.set i u) := fun j => by
  rw [List.getD_eq_getElem?_getD, List.getElem?_set]
  split
  · split
    · exact hu
    · exact Wok.nil K
  · rw [← List.getD_eq_getElem?_getD]
    exact h j
theorem nxS_sml {k b : Nat} {wd N : List (List Nat)} {has : List Bool} {u : List Nat} {x : Int} (hu : Wok k u) (hb : b < 256) (hN : Sml (k + 1) N) : Sml (k + 1) (nxS wd has k u x b N) := by
  unfold nxS
  split
  · exact hN
  · split
    · exact hN.set (hu.snoc hb)
    · exact hN
theorem nxC_sml {D : DfaM} (hR : rightD D = true) {wd N : List (List Nat)} {has : List Bool} {k i : Nat} (hw : Sml k wd) (hN : Sml (k + 1) N) : ∀ c, c ≤ D.width.toNat → Sml (k + 1) (nxC D wd has k i N c)
  | 0, _ => hN
  | c + 1, hc => nxS_sml (hw i) (lb_is hR (show c < D.width.toNat by omega)).1 (nxC_sml hR hw hN c (by omega))
theorem nxI_sml {D : DfaM} (hR : rightD D = true) {wd : List (List Nat)} {has : List Bool} {k : Nat} (hw : Sml k wd) : ∀ i, Sml (k + 1) (nxI D wd has k i)
  | 0 => Sml.rep _ _
  | i + 1 => by
    unfold nxI
    split
    · exact nxC_sml hR hw (nxI_sml hR hw i) _ (Nat.le_refl _)
    · exact nxI_sml hR hw i
theorem mgI_sml {N wd : List (List Nat)} {has : List Bool} {K : Nat} (hN : Sml K N) (hw : Sml K wd) : ∀ i, Sml K (mgI N wd has i).1
  | 0 => hw
  | i + 1 => by
    unfold mgI
    split
    · exact (mgI_sml hN hw i).set (hN i)
    · exact mgI_sml hN hw i
theorem exS_sml {D : DfaM} (hR : rightD D = true) : ∀ k, Sml k (exS D k).1
  | 0 => Sml.rep _ _
  | k + 1 => mgI_sml (nxI_sml hR (exS_sml hR k) _) ((exS_sml hR k).mono (Nat.le_succ k)) _
theorem nxS_len {k b : Nat} {wd N : List (List Nat)} {has : List Bool} {u : List Nat} {x : Int} : (nxS wd has k u x b N).length = N.length := by
  unfold nxS
  split
  · rfl
  · split
    · rw [List.length_set]
    · rfl
theorem nxC_len {D : DfaM} {wd N : List (List Nat)} {has : List Bool} {k i : Nat} : ∀ c, (nxC D wd has k i N c).length = N.length
  | 0 => rfl
  | c + 1 => by
    unfold nxC
    rw [nxS_len, nxC_len c]
theorem nxI_len {D : DfaM} {wd : List (List Nat)} {has : List Bool} {k : Nat} : ∀ i, (nxI D wd has k i).length = D.next.length
  | 0 => List.length_replicate
  | i + 1 => by
    unfold nxI
    split
    · rw [nxC_len, nxI_len i]
    · exact nxI_len i
theorem mgI_len {N wd : List (List Nat)} {has : List Bool} : ∀ i, (mgI N wd has i).1.length = wd.length ∧ (mgI N wd has i).2.length = has.length
  | 0 => ⟨rfl, rfl⟩
  | i + 1 => by
    unfold mgI
    split
    · exact ⟨by rw [List.length_set]; exact (mgI_len i).1, by rw [List.length_set]; exact (mgI_len i).2⟩
    · exact mgI_len i
theorem exS_len {D : DfaM} : ∀ k, (exS D k).1.length = D.next.length ∧ (exS D k).2.length = D.next.length
  | 0 => ⟨List.length_replicate, by show ((List.replicate D.next.length false).set 0 true).length = _; rw [List.length_set, List.length_replicate]⟩
  | k + 1 => by
    show (mgI _ _ _ _).1.length = _ ∧ (mgI _ _ _ _).2.length = _
    rw [(mgI_len _).1, (mgI_len _).2]
    exact exS_len k
theorem best_wok {L : List Int} {t : Int} {wd : List (List Nat)} {has : List Bool} {k K : Nat} (h : Sml K wd) : ∀ i b, bestE L t wd has k i = some b → Wok K b
  | 0, b, e => by cases e
  | i + 1, b, e => by
    unfold bestE at e
    split at e
    · split at e
      · rw [← Option.some.inj e]; exact h i
      · cases e
    · rename_i b0 hb
      split at e
      · rw [← Option.some.inj e]; exact h i
      · rw [← Option.some.inj e]; exact best_wok h i b0 hb
/-- a row of texts is made -/
theorem run_make_s (w : World) (n : Nat) (hn : n ≤ 100000) : (Instr.makeSlice 45 (.int .i64 (n : Int)) (.int .i64 (n : Int))).run Tryz.prog w = .ok (.slice (some ⟨w.heap.size, 0, none⟩) n n) (w.alloc (.cells ((List.replicate n ([] : List Nat)).map sW).toArray 9)) := by
  obtain ⟨i0, hi, hz0, hz1, hz2⟩ := info_parts (show (Tryz.prog.info? 9).map (fun i => (i.zero, i.size, i.bytes)) = some (some (.string ⟨#[]⟩), 1, 16) by kernel_rfl)
  have := run_make (P := Tryz.prog) w 45 9 i0 _ Tryz.underlying45 hi hz0 .i64 .i64 (n : Int) (n : Int) (by omega) (by omega) (by rw [hz2]; omega) (by omega)
  rw [hz1, Nat.mul_one, Int.toNat_natCast] at this
  rw [this, show (Value.string ⟨#[]⟩).cells = #[.string ⟨#[]⟩] from rfl, madeOne, List.map_replicate]
  rfl
/-- the machine, the words, the truths -/
structure ESt (w0 w : World) (X WB HB : Nat) (g : Nat → Nat) (wd : Int) (vn vl : Value) (ws : List (List Nat)) (has : List Bool) : Prop where
  d : DfaAt w X g wd vn vl
  r : RowAt w WB 9 sW ws
  h : RowAt w HB 4 Value.bool has
  b : Below w0.heap.size w0 w
  ne : X < WB ∧ WB < HB
  lo : w0.heap.size ≤ X
section
variable {w0 w w' : World} {X WB HB : Nat} {g : Nat → Nat} {wd : Int} {vn vl : Value} {ws : List (List Nat)} {has : List Bool}
theorem ESt.putW (h : ESt w0 w X WB HB g wd vn vl ws has) (i : Nat) (u : List Nat) : ESt w0 (w.setCell ⟨WB, i, none⟩ (sW u)) X WB HB g wd vn vl (ws.set i u) has :=
  ⟨h.d.put _ (by have := h.ne; omega), h.r.set i u, h.h.other _ (by have := h.ne; omega), h.b.setCell (p := ⟨WB, i, none⟩) (by have := h.ne; have := h.lo; simp; omega) _, h.ne, h.lo⟩
theorem ESt.putH (h : ESt w0 w X WB HB g wd vn vl ws has) (i : Nat) (x : Bool) : ESt w0 (w.setCell ⟨HB, i, none⟩ (.bool x)) X WB HB g wd vn vl ws (has.set i x) :=
  ⟨h.d.put _ (by have := h.ne; omega), h.r.other _ (by have := h.ne; omega), h.h.set i x, h.b.setCell (p := ⟨HB, i, none⟩) (by have := h.ne; have := h.lo; simp; omega) _, h.ne, h.lo⟩
theorem ESt.other (h : ESt w0 w X WB HB g wd vn vl ws has) {C j : Nat} (u : Value) (hC : HB < C) : ESt w0 (w.setCell ⟨C, j, none⟩ u) X WB HB g wd vn vl ws has :=
  ⟨h.d.put _ (by have := h.ne; omega), h.r.other _ (by have := h.ne; omega), h.h.other _ (by omega), h.b.setCell (p := ⟨C, j, none⟩) (by have := h.ne; have := h.lo; simp; omega) _, h.ne, h.lo⟩
theorem ESt.kept (h : ESt w0 w X WB HB g wd vn vl ws has) (hb : Below w.heap.size w w') : ESt w0 w' X WB HB g wd vn vl ws has := ⟨h.d.below hb, h.r.below hb, h.h.below hb, below_then h.b h.b.size hb, h.ne, h.lo⟩
end
end Go.Proofs.YtnjjbaodfjmiaaaGreat

/- Contract of the reference's Example. -/
namespace Go.Proofs.YtnjjbaodfjmiaaaGreat
open Go.RowKit Go.Lib Go.Joins
attribute [local go_sem] Rl.evalR_tmp Rl.evalR_const Rl.evalR_global Rl.evalR_func

/-- the best word so far, and whether there is one -/
def BestV (o : Option (List Nat)) (bv fv : Value) : Prop := bv = sW (o.getD []) ∧ fv = .bool o.isSome
/-- a slice that begins with one byte -/
def OneB (b : Nat) (v : Value) (w : World) : Prop := ∃ g len cap, v = .slice (some ⟨g, 0, none⟩) len cap ∧ 1 ≤ len ∧ len ≤ cap ∧ cap ≤ maxLen ∧ g < w.heap.size ∧ w.cell? ⟨g, 0, none⟩ = some (.int .u8 (b : Int))
theorem OneB.below {b : Nat} {v : Value} {w w' : World} (h : OneB b v w) (hb : Below w.heap.size w w') : OneB b v w' := by
  obtain ⟨g, len, cap, e, h1, h2, h3, h4, h5⟩ := h
  exact ⟨g, len, cap, e, h1, h2, h3, Nat.lt_of_lt_of_le h4 hb.size, (hb.cell (p := ⟨g, 0, none⟩) h4).trans h5⟩
def OneS (b : Nat) (v : Value) (w : World) : Prop := ∃ g cap, v = .slice (some ⟨g, 0, none⟩) 1 cap ∧ g < w.heap.size ∧ w.cell? ⟨g, 0, none⟩ = some (.int .u8 (b : Int))
theorem OneS.below {b : Nat} {v : Value} {w w' : World} (h : OneS b v w) (hb : Below w.heap.size w w') : OneS b v w' := by
  obtain ⟨g, cap, e, h4, h5⟩ := h
  exact ⟨g, cap, e, Nat.lt_of_lt_of_le h4 hb.size, (hb.cell (p := ⟨g, 0, none⟩) h4).trans h5⟩
theorem does_load_any {o : Oper} {ρ : Tmp → Value} {w : World} {Kv : Value → World → Prop} {x : Tmp} {ty : TypeId} {p : Addr} {v : Value} (ho : o.op = .load ty (.tmp x)) (hx : ρ x = .pointer (some p)) (hl : (loadVar ty p).run Tryz.prog w = .ok v w) (h : Kv v w) : Rl.Does Tryz.prog o ρ w Kv := by
  unfold Rl.Does execOp
  simp only [ho, Rl.evalR_tmp, hx, Instr.loadAt, Instr.sureAddr, Sem.run_bind, Sem.run_pure, Result.andThen_ok, hl]
  exact h
/-- a class's bytes begin with its least -/
theorem bytes_one {D : DfaM} (hR : rightD D = true) (hs : ∀ j, j < 256 → D.cls j < 256) {c : Nat} (hc : c < D.width.toNat) (w : World) :
    Calls Tryz.prog 35 #[ar D.cls, .int .i64 (c : Int)] w fun e w' => ∃ v, e = .returned v ∧ OneB (lbC D.cls c) v w' ∧ Below w.heap.size w w' :=
  (rbytes_calls D.cls c w hs).mono fun e w' h => by
    obtain ⟨v, rfl, hown, hb⟩ := h
    obtain ⟨l1, l2, _⟩ := lb_is hR hc
    have hm : lbC D.cls c ∈ lstC D.cls (c : Int) := lst_mem.2 ⟨l1, by omega⟩
    have hp : 0 < (lstC D.cls (c : Int)).length := List.length_pos_of_mem hm
    refine ⟨v, rfl, ?_, hb⟩
    have hown' := hown
    rcases hown.2 with ⟨_, h0⟩ | ⟨g, cap, cur, rfl, _, hgg, g1, g2, _⟩
    · omega
    · refine ⟨g, _, cap, rfl, hp, by omega, g2, (Array.getElem?_eq_some_iff.1 hgg).1, ?_⟩
      rw [World.ownsRow.cellAt hown' 0 (by omega), List.getElem?_map]
      unfold lbC
      cases hl : lstC D.cls (c : Int) with
      | nil => rw [hl] at hp; simp at hp
      | cons x r => rfl
set_option maxHeartbeats 16000000 in
set_option maxRecDepth 100000 in
theorem rexample_calls {w : World} {vn vl : Value} {D : DfaM} (t : Int) (h : RdDfa w.heap.size w vn vl D) (hN : D.next.length ≤ 1000) :
    Calls Tryz.prog 18 #[dfaA D.cls D.width vn vl, .int .i64 t] w fun e w' => e = .returned (exR (exM D t)) ∧ Below w.heap.size w w' := by
  obtain ⟨an, cn, rfl⟩ := h.next.form
  obtain ⟨al, cl, rfl⟩ := h.label.form
  have HR := hidden (fun w' (hb : Below w.heap.size w w') => rright14_calls (h.below hb hb.size))
  have HD := hidden h
  obtain ⟨ln, hln⟩ : ∃ m, m = D.label.length := ⟨_, rfl⟩
  obtain ⟨n, hn⟩ : ∃ n, n = D.next.length := ⟨_, rfl⟩
  have HX := hidden (DfaAt.new w D.cls D.width (.slice an D.next.length cn) (.slice al D.label.length cl))
  have HB0 := hidden ((Below.refl w.heap.size w).alloc (Nat.le_refl _) (.cells (dfaC D.cls D.width (.slice an D.next.length cn) (.slice al D.label.length cl)) 26))
  have hbx := run_box_dfa D.cls D.width (.slice an D.next.length cn) (.slice al D.label.length cl)
  rw [← hn, ← hln] at HD HX HB0 HR hbx ⊢
  rw [← hn] at hN
  have HN := hidden hn
  have HLN := hidden hln
  clear h hn hln
  go_enter Tryz.func18, Tryz.ntmps18
  go_wp2_with (refine load_dfa rfl (x := .tmp 2) rfl rfl HX.out ?_)
  refine (HR.out _ HB0.out).mono ?_
  rintro e w1 ⟨rfl, hb1⟩
  have HX1 := hidden (HX.out.below hb1)
  have HB1 := hidden (below_then HB0.out HB0.out.size hb1)
  clear hb1 hbx
  cases hr : rightD D with
  | false =>
    have HF := hidden (show exM D t = none by unfold exM; rw [if_neg (by simp [hr])])
    clear hr
    go_wp2
    exact bodyPost_ret (results_tmp2 rfl _ _ _) rfl ⟨by rw [HF.out]; rfl, HB1.out⟩
  | true =>
    have HRT := hidden hr
    by_cases ht : 0 ≤ t
    case neg =>
      have HF := hidden (show exM D t = none by unfold exM; rw [if_neg fun h => ht h.2])
      have q0 : decide (t < 0) = true := decide_eq_true (by omega)
      clear hr ht
      go_wp2
      exact bodyPost_ret (results_tmp2 rfl _ _ _) rfl ⟨by rw [HF.out]; rfl, HB1.out⟩
    have HL := hidden (show exM D t = exGo D t (n + 1 - 0) 0 by unfold exM; rw [if_pos ⟨hr, ht⟩, HN.out]; rfl)
    have q0 : decide (t < 0) = false := decide_eq_false (by omega)
    obtain ⟨W, hW, hWn⟩ := rch_width hr
    have HW := hidden hW
    have HWN := hidden hWn
    have hn0 : 0 < n := by have := (rightD_spec hr).2.2.1; have := HN.out; omega
    have e2 := HX1.out.next
    have hm := fun W => run_make_s W n (by omega)
    have hm2 := fun W => run_make_b W n (by omega)
    have hsz : w.heap.size < w1.heap.size := HX1.out.lt
    have hwid : W ≤ 256 := by
      have h2 := (rightD_spec hr).2.1
      have := wid_le D.cls 256 256 HD.out.small
      omega
    have HSL := hidden (fun k => exS_sml hr k)
    have HLE := hidden (fun k => (show (exS D k).1.length = n ∧ (exS D k).2.length = n by rw [HN.out]; exact exS_len k))
    have e3 := (HX1.out.alloc (.cells (Array.replicate n (sW [])) 9)).next
    clear hr hW hWn ht
    go_wp2
    obtain ⟨WB, hWB⟩ : ∃ b, b = w1.heap.size := ⟨_, rfl⟩
    have HWB := hidden hWB
    rw [← hWB] at hsz ⊢
    have HS0 := hidden (show ESt w ((w1.alloc (.cells (Array.replicate n (sW [])) 9)).alloc (.cells ((Array.replicate n (.bool false)).setIfInBounds 0 (.bool true)) 4)) w.heap.size WB (WB + 1) D.cls D.width (.slice an n cn) (.slice al ln cl) (exS D 0).1 (exS D 0).2 from
      ⟨(HX1.out.alloc _).alloc _, by
        show RowAt _ WB 9 sW (List.replicate D.next.length [])
        rw [← HN.out]
        exact (RowAt.newAt hWB (by simp)).alloc _, by
        show RowAt _ (WB + 1) 4 Value.bool ((List.replicate D.next.length false).set 0 true)
        rw [← HN.out]
        exact RowAt.newAt (by simp [hWB]) (by simp only [List.map_set, List.map_replicate]; exact rep_set n _ _), (HB1.out.alloc HB1.out.size _).alloc (by have := HB1.out.size; simp; omega) _, ⟨hsz, by omega⟩, Nat.le_refl _⟩)
    clear hWB e2 e3
    go_loopw [8] (fun kv wr => ∃ k : Nat, k ≤ n + 1 ∧ kv = .int .i64 k ∧ Hid (exM D t = exGo D t (n + 1 - k) k) ∧ ESt w wr w.heap.size WB (WB + 1) D.cls D.width (.slice an n cn) (.slice al ln cl) (exS D k).1 (exS D k).2) (fun kv _ => n + 1 - (Go.RowKit.intOf kv).toNat)
    case atStart => exact ⟨0, by omega, rfl, HL, HS0.out⟩
    case round =>
      obtain ⟨k, hk, rfl, HGO, hS⟩ := hrel
      have HS := hidden hS
      clear hS
      have e2 := HS.out.d.next
      by_cases hlt : k ≤ n
      case neg =>
        obtain rfl : k = n + 1 := by omega
        have HF := hidden (show exM D t = none by rw [HGO.out, Nat.sub_self]; rfl)
        have hq : decide (((n + 1 : Nat) : Int) ≤ (n : Int)) = false := decide_eq_false (by omega)
        have hq' : decide ((n : Int) + 1 ≤ (n : Int)) = false := decide_eq_false (by omega)
        go_wp2
        exact bodyPost_ret (results_tmp2 rfl _ _ _) rfl ⟨by rw [HF.out]; rfl, HS.out.b⟩
      have hkd : decide ((k : Int) ≤ n) = true := decide_eq_true (by omega)
      have HGO2 := hidden (show exM D t = match exB D t k with | some w => some w | none => exGo D t (n - k) (k + 1) by
        rw [HGO.out, show n + 1 - k = (n - k) + 1 by omega]
        rfl)
      have HNX := hidden (show exS D (k + 1) = mgI (nxI D (exS D k).1 (exS D k).2 k n) (exS D k).1 (exS D k).2 n by rw [HN.out]; rfl)
      have HEB := hidden (show exB D t k = bestE D.label t (exS D k).1 (exS D k).2 k n by rw [HN.out]; rfl)
      have HSM := hidden (HSL.out k)
      have HLK := hidden (HLE.out k)
      obtain ⟨wq, rfl⟩ : ∃ wq, wq = wr := ⟨wr, rfl⟩
      clear HGO HS0
      obtain ⟨wd, hwd⟩ : ∃ x, x = (exS D k).1 := ⟨_, rfl⟩
      obtain ⟨has, hhas⟩ : ∃ x, x = (exS D k).2 := ⟨_, rfl⟩
      rw [← hwd, ← hhas] at HS HNX HEB HLK
      rw [← hwd] at HSM
      clear hwd hhas
      go_wp2
      go_loopw [9, 10, 11] (fun bv fv iv W2 => ∃ i : Nat, i ≤ n ∧ iv = .int .i64 i ∧ wq = W2 ∧ BestV (bestE D.label t wd has k i) bv fv) (fun _ _ iv _ => n - (Go.RowKit.intOf iv).toNat)
      case atStart => exact ⟨0, by omega, rfl, rfl, rfl, rfl⟩
      case round =>
        obtain ⟨i, hi, rfl, rfl, hbv⟩ := hrel
        have HBV := hidden hbv
        clear hbv
        by_cases hli : i < n
        · have hid : decide ((i : Int) < n) = true := decide_eq_true (by omega)
          have HBE := hidden (show bestE D.label t wd has k (i + 1) = match bestE D.label t wd has k i with
            | none => if On has i ∧ (wd.getD i []).length = k ∧ D.label.getD i 0 = t then some (wd.getD i []) else none
            | some b => if On has i ∧ (wd.getD i []).length = k ∧ D.label.getD i 0 = t ∧ lxB (wd.getD i []) b = true then some (wd.getD i []) else some b from rfl)
          have HBW := hidden (fun b hb => best_wok HSM.out i b hb (L := D.label) (t := t) (has := has) (k := k))
          have c0 := HS.out.h.cell (i := i) (by rw [HLK.out.2]; exact hli) false
          have c1 := HS.out.r.cell (i := i) (by rw [HLK.out.1]; exact hli) []
          have e4 := HS.out.d.label
          obtain ⟨b9, o9, hal9, _, q9⟩ := HD.out.label.atZ HS.out.b i (by have := (rightD_spec HRT.out).2.2.2.1; have := HN.out; omega)
          subst hal9
          have hil : (i : Int) < (ln : Int) := by
            have := (rightD_spec HRT.out).2.2.2.1
            have := HN.out
            have := HLN.out
            omega
          have hwo := HSM.out i
          obtain ⟨x, hx⟩ : ∃ x, x = D.label.getD i 0 := ⟨_, rfl⟩
          obtain ⟨u, hu⟩ : ∃ u, u = wd.getD i [] := ⟨_, rfl⟩
          rw [← hx] at q9 HBE
          rw [← hu] at c1 hwo HBE
          have HUS := hidden (byW_size u)
          obtain ⟨o, hoe⟩ : ∃ o, o = bestE D.label t wd has k i := ⟨_, rfl⟩
          rw [← hoe] at HBE HBW HBV
          clear hx hu
          by_cases ho : On has i
          case neg =>
            rw [show has.getD i false = false from by rw [getD_on]; exact decide_eq_false ho] at c0
            have HF := hidden (show bestE D.label t wd has k (i + 1) = o by rw [HBE.out]; cases o <;> simp [ho])
            clear ho hoe HBE HBW hwo
            go_wp2
            exact ⟨⟨i + 1, by omega, by go_num, trivial, by rw [HF.out]; exact HBV.out⟩, by simp [Go.RowKit.intOf]; omega⟩
          rw [show has.getD i false = true from ho] at c0
          by_cases hul : u.length = k
          case neg =>
            have k1 : (((byW u).size : Int) == (k : Int)) = false := by rw [Bool.eq_false_iff]; intro e; have := eq_of_beq e; have := HUS.out; omega
            have HF := hidden (show bestE D.label t wd has k (i + 1) = o by rw [HBE.out]; cases o <;> simp [hul])
            clear ho hul hoe HBE HBW hwo
            go_wp2
            exact ⟨⟨i + 1, by omega, by go_num, trivial, by rw [HF.out]; exact HBV.out⟩, by simp [Go.RowKit.intOf]; omega⟩
          have k1 : (((byW u).size : Int) == (k : Int)) = true := by rw [HUS.out, hul]; simp
          by_cases hxt : x = t
          case neg =>
            have k2 : (x == t) = false := by rw [Bool.eq_false_iff]; intro e; exact hxt (eq_of_beq e)
            have HF := hidden (show bestE D.label t wd has k (i + 1) = o by rw [HBE.out]; cases o <;> simp [hxt])
            clear ho hul hxt hoe HBE HBW hwo
            go_wp2
            exact ⟨⟨i + 1, by omega, by go_num, trivial, by rw [HF.out]; exact HBV.out⟩, by simp [Go.RowKit.intOf]; omega⟩
          have k2 : (x == t) = true := by rw [hxt]; simp
          cases o with
          | none =>
            have HF := hidden (show bestE D.label t wd has k (i + 1) = some u by rw [HBE.out]; simp [ho, hul, hxt])
            clear ho hul hxt hoe HBE HBW hwo
            obtain ⟨rfl, rfl⟩ := HBV.out
            simp only [Option.isSome_none]
            go_wp2
            exact ⟨⟨i + 1, by omega, by go_num, trivial, by rw [HF.out]; exact ⟨rfl, rfl⟩⟩, by simp [Go.RowKit.intOf]; omega⟩
          | some b =>
            have hlb := less_by hwo.2 (HBW.out b rfl).2
            obtain ⟨rfl, rfl⟩ := HBV.out
            simp only [Option.isSome_some, Option.getD_some]
            by_cases hlx : lxB u b = true
            · have HF := hidden (show bestE D.label t wd has k (i + 1) = some u by rw [HBE.out]; simp [ho, hul, hxt, hlx])
              rw [hlx] at hlb
              clear ho hul hxt hlx hoe HBE HBW hwo
              go_wp2
              exact ⟨⟨i + 1, by omega, by go_num, trivial, by rw [HF.out]; exact ⟨rfl, rfl⟩⟩, by simp [Go.RowKit.intOf]; omega⟩
            · have HF := hidden (show bestE D.label t wd has k (i + 1) = some b by rw [HBE.out]; simp [ho, hul, hxt, hlx])
              rw [Bool.eq_false_iff.2 hlx] at hlb
              clear ho hul hxt hlx hoe HBE HBW hwo
              go_wp2
              exact ⟨⟨i + 1, by omega, by go_num, trivial, by rw [HF.out]; exact ⟨rfl, rfl⟩⟩, by simp [Go.RowKit.intOf]; omega⟩
        · obtain rfl : n = i := by omega
          rw [← HEB.out] at HBV
          cases hbe : exB D t k with
          | some b =>
            have HF := hidden (show exM D t = some b by rw [HGO2.out, hbe])
            rw [hbe] at HBV
            obtain ⟨rfl, rfl⟩ := HBV.out
            clear hbe
            simp only [Option.isSome_some, Option.getD_some]
            go_wp2
            exact bodyPost_ret (results_tmp2 rfl _ _ _) rfl ⟨by rw [HF.out]; rfl, HS.out.b⟩
          | none =>
            have HG3 := hidden (show exM D t = exGo D t (n - k) (k + 1) by rw [HGO2.out, hbe])
            rw [hbe] at HBV
            obtain ⟨rfl, rfl⟩ := HBV.out
            clear hbe
            simp only [Option.isSome_none, Option.getD_none]
            go_wp2
            obtain ⟨NB, hNB⟩ : ∃ b, b = wq.heap.size := ⟨_, rfl⟩
            have HNB0 := hidden (show RowAt (wq.alloc (.cells (Array.replicate n (sW [])) 9)) NB 9 sW (nxI D wd has k 0) from by
              show RowAt _ NB 9 sW (List.replicate D.next.length [])
              rw [← HN.out]
              exact RowAt.newAt hNB (by simp))
            have HS1 := hidden (HS.out.kept ((Below.refl wq.heap.size wq).alloc (Nat.le_refl _) (.cells (Array.replicate n (sW [])) 9)))
            have hnbl : WB + 1 < NB := by rw [hNB]; exact HS.out.h.lt
            rw [← hNB]
            obtain ⟨w3, hw3⟩ : ∃ w3, w3 = wq.alloc (.cells (Array.replicate n (sW [])) 9) := ⟨_, rfl⟩
            rw [← hw3] at HNB0 HS1 ⊢
            clear hNB hw3 e2
            go_loopw [13] (fun iv wr => ∃ i : Nat, i ≤ n ∧ iv = .int .i64 i ∧ ESt w wr w.heap.size WB (WB + 1) D.cls D.width (.slice an n cn) (.slice al ln cl) wd has ∧ RowAt wr NB 9 sW (nxI D wd has k i)) (fun iv _ => n - (Go.RowKit.intOf iv).toNat)
            case atStart => exact ⟨0, by omega, rfl, HS1.out, HNB0.out⟩
            case round =>
              obtain ⟨i, hi2, rfl, hS3, hN3⟩ := hrel
              have HS3 := hidden hS3
              have HN3 := hidden hN3
              clear hS3 hN3 HS1 HNB0
              obtain ⟨wp, rfl⟩ : ∃ wp, wp = wr := ⟨wr, rfl⟩
              have e2 := HS3.out.d.next
              by_cases hli2 : i < n
              · have hid : decide ((i : Int) < n) = true := decide_eq_true (by omega)
                have HNI := hidden (show nxI D wd has k (i + 1) = if On has i ∧ (wd.getD i []).length = k then nxC D wd has k i (nxI D wd has k i) W else nxI D wd has k i by rw [← HWN.out]; rfl)
                have HNL := hidden (fun c => (show (nxC D wd has k i (nxI D wd has k i) c).length = n by rw [nxC_len, nxI_len, HN.out]))
                have HNS := hidden (fun c (hc : c ≤ W) => nxC_sml HRT.out HSM.out (nxI_sml HRT.out HSM.out i (has := has) (D := D)) c (by rw [HWN.out]; exact hc) (has := has) (i := i))
                obtain ⟨u, hu⟩ : ∃ u, u = wd.getD i [] := ⟨_, rfl⟩
                have hwo := hidden (HSM.out i)
                rw [← hu] at HNI hwo
                have HUS := hidden (byW_size u)
                have HU := hidden hu
                obtain ⟨N0, hN0⟩ : ∃ x, x = nxI D wd has k i := ⟨_, rfl⟩
                rw [← hN0] at HNI HN3
                simp only [← hN0] at HNL HNS
                clear hN0
                clear hu
                go_wp2
                go_loopw [14] (fun cv wr => ∃ c : Nat, c ≤ W ∧ cv = .int .i64 c ∧ ESt w wr w.heap.size WB (WB + 1) D.cls D.width (.slice an n cn) (.slice al ln cl) wd has ∧ RowAt wr NB 9 sW (nxC D wd has k i N0 c) ∧ (¬ (On has i ∧ u.length = k) → c = 0)) (fun cv _ => W - (Go.RowKit.intOf cv).toNat)
                case atStart => exact ⟨0, by omega, rfl, HS3.out, HN3.out, fun _ => rfl⟩
                case round =>
                  obtain ⟨c, hc, rfl, hS4, hN4, hno⟩ := hrel
                  have HS4 := hidden hS4
                  have HN4 := hidden hN4
                  have HNO := hidden hno
                  clear hS4 hN4 hno HS3 HN3 e2
                  have c0 := HS4.out.h.cell (i := i) (by rw [HLK.out.2]; exact hli2) false
                  have c1 := HS4.out.r.cell (i := i) (by rw [HLK.out.1]; exact hli2) []
                  rw [← HU.out] at c1
                  have e1 := HS4.out.d.width
                  have e2 := HS4.out.d.next
                  rw [HW.out] at e1
                  by_cases ho : On has i
                  case neg =>
                    obtain rfl : c = 0 := HNO.out fun e => ho e.1
                    rw [show has.getD i false = false from by rw [getD_on]; exact decide_eq_false ho] at c0
                    have HJ := hidden (show RowAt wr NB 9 sW (nxI D wd has k (i + 1)) by rw [HNI.out, if_neg fun e => ho e.1]; exact HN4.out)
                    clear ho
                    go_wp2
                    go_roundw
                    case rel => exact ⟨i + 1, by omega, by go_num, HS4.out, HJ.out⟩
                    case measure => simp [Go.RowKit.intOf]; omega
                  rw [show has.getD i false = true from ho] at c0
                  by_cases hul : u.length = k
                  case neg =>
                    obtain rfl : c = 0 := HNO.out fun e => hul e.2
                    have k1 : (((byW u).size : Int) == (k : Int)) = false := by rw [Bool.eq_false_iff]; intro e; have := eq_of_beq e; have := HUS.out; omega
                    have HJ := hidden (show RowAt wr NB 9 sW (nxI D wd has k (i + 1)) by rw [HNI.out, if_neg fun e => hul e.2]; exact HN4.out)
                    clear ho hul
                    go_wp2
                    go_roundw
                    case rel => exact ⟨i + 1, by omega, by go_num, HS4.out, HJ.out⟩
                    case measure => simp [Go.RowKit.intOf]; omega
                  have k1 : (((byW u).size : Int) == (k : Int)) = true := by rw [HUS.out, hul]; simp
                  have HON := hidden (And.intro ho hul)
                  clear ho hul
                  by_cases hcw : c < W
                  case neg =>
                    obtain rfl : W = c := by omega
                    have HJ := hidden (show RowAt wr NB 9 sW (nxI D wd has k (i + 1)) by rw [HNI.out, if_pos HON.out]; exact HN4.out)
                    go_wp2
                    go_roundw
                    case rel => exact ⟨i + 1, by omega, by go_num, HS4.out, HJ.out⟩
                    case measure => simp [Go.RowKit.intOf]; omega
                  obtain ⟨b, off, b2, off2, c', hann, q1, _, _, q2⟩ := HD.out.row HRT.out HW.out HS4.out.b i (by rw [← HN.out]; exact hli2)
                  subst hann
                  have q3 := q2 c hcw
                  have hin := to_in HRT.out (i := i) (c := c) (by rw [← HN.out]; exact hli2) (by rw [HWN.out]; exact hcw)
                  rw [← HN.out] at hin
                  have HX3 := hidden (show nxC D wd has k i N0 (c + 1) = nxS wd has k u (toD D i c) (lbC D.cls c) (nxC D wd has k i N0 c) by rw [HU.out]; rfl)
                  obtain ⟨x, hx⟩ : ∃ x, x = toD D i c := ⟨_, rfl⟩
                  rw [← hx] at q3 hin HX3
                  clear hx q2
                  by_cases hx0 : 0 ≤ x
                  case neg =>
                    have hxd : decide (x < 0) = true := decide_eq_true (by omega)
                    have HJ := hidden (show RowAt wr NB 9 sW (nxC D wd has k i N0 (c + 1)) by rw [HX3.out]; unfold nxS; rw [if_pos (.inl (by omega))]; exact HN4.out)
                    clear hin hx0
                    go_wp2
                    go_roundw
                    case rel => exact ⟨c + 1, by omega, by go_num, HS4.out, HJ.out, fun e => absurd HON.out e⟩
                    case measure => simp [Go.RowKit.intOf]; omega
                  obtain ⟨y, rfl⟩ : ∃ y : Nat, x = y := ⟨x.toNat, by omega⟩
                  have hy : y < n := by omega
                  have c4 := HS4.out.h.cell (i := y) (by rw [HLK.out.2]; exact hy) false
                  have c5 := HS4.out.r.cell (i := y) (by rw [HLK.out.1]; exact hy) []
                  have hwy := HSM.out y
                  obtain ⟨uy, huy⟩ : ∃ u, u = wd.getD y [] := ⟨_, rfl⟩
                  rw [← huy] at c5 hwy
                  have HUY := hidden huy
                  have HWY := hidden hwy
                  clear huy hwy hin hx0
                  by_cases hoy : On has y
                  case pos =>
                    rw [show has.getD y false = true from hoy] at c4
                    have k2 : decide (((byW uy).size : Int) ≤ (k : Int)) = true := decide_eq_true (by rw [byW_size]; have := HWY.out.1; omega)
                    have k2' : decide ((byW uy).size ≤ k) = true := decide_eq_true (by rw [byW_size]; exact HWY.out.1)
                    have HJ := hidden (show RowAt wr NB 9 sW (nxC D wd has k i N0 (c + 1)) by rw [HX3.out]; unfold nxS; rw [if_pos (.inr (by rw [Int.toNat_natCast]; exact ⟨hoy, by rw [← HUY.out]; exact HWY.out.1⟩))]; exact HN4.out)
                    clear hoy
                    go_wp2
                    go_roundw
                    case rel => exact ⟨c + 1, by omega, by go_num, HS4.out, HJ.out, fun e => absurd HON.out e⟩
                    case measure => simp [Go.RowKit.intOf]; omega
                  rw [show has.getD y false = false from by rw [getD_on]; exact decide_eq_false hoy] at c4
                  have HX4 := hidden (show nxC D wd has k i N0 (c + 1) = if (nxC D wd has k i N0 c).getD y [] = [] ∨ lxB (u ++ [lbC D.cls c]) ((nxC D wd has k i N0 c).getD y []) = true then (nxC D wd has k i N0 c).set y (u ++ [lbC D.cls c]) else nxC D wd has k i N0 c by
                    rw [HX3.out]; unfold nxS; rw [if_neg (by rw [Int.toNat_natCast]; rintro (e | e); · omega
                                                             · exact hoy e.1), Int.toNat_natCast])
                  clear hoy HX3
                  obtain ⟨lb, hlb⟩ : ∃ b, b = lbC D.cls c := ⟨_, rfl⟩
                  rw [← hlb] at HX4
                  have HLB := hidden hlb.symm
                  have HLB2 := hidden (show lb < 256 by rw [hlb]; exact (lb_is HRT.out (by rw [HWN.out]; exact hcw)).1)
                  clear hlb
                  go_wp2_with fail
                  refine Rl.wp_region_steps (R := fun w1 w2 => Below w1.heap.size w1 w2) (Rl.typ [Rl.Is (.slice (some ⟨WB, 0, none⟩) n n), Rl.Is (.int .i64 (i : Int)), Rl.Is (.pointer (some ⟨WB, i, none⟩)), Rl.Is (sW u), Rl.Is (.pointer (some ⟨w.heap.size, 0, none⟩)), Rl.Is (ar D.cls), Rl.Is (.int .i64 (c : Int)), OneB lb, OneS lb, Rl.Is (.string ⟨#[UInt8.ofNat lb]⟩), Rl.Is (sW (u ++ [lb])), Rl.Is (sW (u ++ [lb]))]) (fun w1 => Below wr.heap.size wr w1) (by kernel_rfl) (by kernel_rfl) (by kernel_rfl) (by kernel_rfl) ?mono (Below.refl _ _).drew [] (by kernel_rfl) ?guards ?step ?fin
                  case mono =>
                    refine Rl.typ_mono ?_
                    simp only [List.forall_mem_cons]
                    repeat' (first | exact (fun v w w' h _ => h) | exact (fun v w w' h hb => OneB.below h hb) | exact (fun v w w' h hb => OneS.below h hb) | (intro p hp; cases hp; done) | refine And.intro ?_ ?_)
                  case guards => intro g hg; cases hg
                  case step =>
                    refine ⟨?_, ?_, ?_, ?_, ?_, ?_, ?_, ?_, ?_, ?_, ?_, ?_, trivial⟩
                    · intro ρ w1 hF hW
                      have e6 : ρ 6 = .slice (some ⟨WB, 0, none⟩) n n := hF 6 (by decide)
                      have HW := hidden hW
                      clear hF hW
                      unfold Rl.Does
                      go_simp
                      first
                        | exact ⟨rfl, HW.out, Below.refl _ _⟩
                        | (simp; exact ⟨rfl, HW.out, Below.refl _ _⟩)
                    · intro ρ w1 hF hW
                      have e13 : ρ 13 = .int .i64 (i : Int) := hF 13 (by decide)
                      have HW := hidden hW
                      clear hF hW
                      unfold Rl.Does
                      go_simp
                      first
                        | exact ⟨rfl, HW.out, Below.refl _ _⟩
                        | (simp; exact ⟨rfl, HW.out, Below.refl _ _⟩)
                    · intro ρ w1 hF hW
                      have e146 : ρ 146 = .slice (some ⟨WB, 0, none⟩) n n := hF 146 (by decide)
                      have e147 : ρ 147 = .int .i64 (i : Int) := hF 147 (by decide)
                      have HW := hidden hW
                      have hii : ((i : Int) < (n : Int)) := by omega
                      clear hF hW
                      unfold Rl.Does
                      go_simp
                      first
                        | exact ⟨rfl, HW.out, Below.refl _ _⟩
                        | (simp; exact ⟨rfl, HW.out, Below.refl _ _⟩)
                    · intro ρ w1 hF hW
                      have e148 : ρ 148 = .pointer (some ⟨WB, i, none⟩) := hF 148 (by decide)
                      have HW := hidden hW
                      have cc := (hW.cell (p := ⟨WB, i, none⟩) (show WB < wr.heap.size from HS4.out.r.lt)).trans c1
                      clear hF hW
                      unfold Rl.Does
                      go_simp
                      first
                        | exact ⟨rfl, HW.out, Below.refl _ _⟩
                        | (simp; exact ⟨rfl, HW.out, Below.refl _ _⟩)
                    · intro ρ w1 hF hW
                      have e2 : ρ 2 = .pointer (some ⟨w.heap.size, 0, none⟩) := hF 2 (by decide)
                      have HW := hidden hW
                      clear hF hW
                      unfold Rl.Does
                      go_simp
                      first
                        | exact ⟨rfl, HW.out, Below.refl _ _⟩
                        | (simp; exact ⟨rfl, HW.out, Below.refl _ _⟩)
                    · intro ρ w1 hF hW
                      have e150 : ρ 150 = .pointer (some ⟨w.heap.size, 0, none⟩) := hF 150 (by decide)
                      exact does_load_any rfl e150 (run_load_cls (HS4.out.d.below hW)) ⟨rfl, hW, Below.refl _ _⟩
                    · intro ρ w1 hF hW
                      have e14 : ρ 14 = .int .i64 (c : Int) := hF 14 (by decide)
                      have HW := hidden hW
                      clear hF hW
                      unfold Rl.Does
                      go_simp
                      first
                        | exact ⟨rfl, HW.out, Below.refl _ _⟩
                        | (simp; exact ⟨rfl, HW.out, Below.refl _ _⟩)
                    · intro ρ w1 hF hW
                      have e151 : ρ 151 = ar D.cls := hF 151 (by decide)
                      have e152 : ρ 152 = .int .i64 (c : Int) := hF 152 (by decide)
                      have HW := hidden hW
                      clear hF hW
                      unfold Rl.Does
                      go_simp
                      refine (bytes_one HRT.out HD.out.small (by rw [HWN.out]; exact hcw) _).mono ?_
                      rintro e w5 ⟨v, rfl, h1, hb⟩
                      exact ⟨_, rfl, HLB.out ▸ h1, below_after HW.out hb, hb⟩
                    · intro ρ w1 hF hW
                      obtain ⟨g, len, cap, e153, l1, l2, l3, l4, l5⟩ : OneB lb (ρ 153) w1 := hF 153 (by decide)
                      have HW := hidden hW
                      have HC := hidden (show OneS lb (.slice (some ⟨g, 0, none⟩) 1 cap) w1 from ⟨g, cap, rfl, l4, l5⟩)
                      have m1 : (1 : Int) ≤ (cap : Int) := by omega
                      have m2 : 1 ≤ cap := by omega
                      clear hF hW l4 l5
                      unfold Rl.Does
                      go_simp
                      first
                        | exact ⟨HC.out, HW.out, Below.refl _ _⟩
                        | (simp; exact ⟨HC.out, HW.out, Below.refl _ _⟩)
                    · intro ρ w1 hF hW
                      obtain ⟨g, cap, e154, l4, l5⟩ : OneS lb (ρ 154) w1 := hF 154 (by decide)
                      have HW := hidden hW
                      have HCV := hidden (run_convert_bytes_arg w1 50 5 Tryz.underlying50 Tryz.underlying5 g 0 1 cap [(lb : Int)] rfl (by intro j hj; obtain rfl : j = 0 := (by simpa using hj); exact l5) 9 Tryz.underlying9)
                      clear hF hW l4 l5
                      unfold Rl.Does
                      go_simp
                      rw [HCV.out]
                      exact ⟨rfl, HW.out, Below.refl _ _⟩
                    · intro ρ w1 hF hW
                      have e149 : ρ 149 = sW u := hF 149 (by decide)
                      have e155 : ρ 155 = .string ⟨#[UInt8.ofNat lb]⟩ := hF 155 (by decide)
                      have HW := hidden hW
                      have hsz : ¬ 9223372036854775807 < (byW u).size + 1 := by have := HUS.out; have := hwo.out.1; omega
                      have hap := byW_snoc u lb
                      clear hF hW
                      unfold Rl.Does
                      go_simp
                      exact ⟨rfl, HW.out, Below.refl _ _⟩
                    · intro ρ w1 hF hW
                      have e156 : ρ 156 = sW (u ++ [lb]) := hF 156 (by decide)
                      have HW := hidden hW
                      clear hF hW
                      unfold Rl.Does
                      go_simp
                      first
                        | exact ⟨rfl, HW.out, Below.refl _ _⟩
                        | (simp; exact ⟨rfl, HW.out, Below.refl _ _⟩)
                  case fin =>
                    intro a1 w6 hst hv hW
                    have h16 : a1.tmps.getD 16 undef = sW (u ++ [lb]) := hv 11 16 (by kernel_rfl)
                    have hd := hst.defers
                    have hz := hst.lit [146, 147, 148, 149, 150, 151, 152, 153, 154, 155, 156, 16] (by kernel_rfl)
                    have HS6 := hidden (HS4.out.kept hW)
                    have HN6 := hidden (HN4.out.below hW)
                    clear hst hv hW
                    obtain ⟨tm, df⟩ := a1
                    simp only at hz hd h16
                    simp only [List.foldl_cons, List.foldl_nil, List.setIfInBounds_toArray, List.set_cons_zero, List.set_cons_succ] at hz
                    rw [h16] at hz
                    generalize tm.getD 146 undef = v146 at hz
                    generalize tm.getD 147 undef = v147 at hz
                    generalize tm.getD 148 undef = v148 at hz
                    generalize tm.getD 149 undef = v149 at hz
                    generalize tm.getD 150 undef = v150 at hz
                    generalize tm.getD 151 undef = v151 at hz
                    generalize tm.getD 152 undef = v152 at hz
                    generalize tm.getD 153 undef = v153 at hz
                    generalize tm.getD 154 undef = v154 at hz
                    generalize tm.getD 155 undef = v155 at hz
                    generalize tm.getD 156 undef = v156 at hz
                    clear h16
                    subst hz hd
                    have c6 := HN6.out.cell (i := y) (by rw [HNL.out]; exact hy) []
                    obtain ⟨z, hz⟩ : ∃ z, z = (nxC D wd has k i N0 c).getD y [] := ⟨_, rfl⟩
                    have hzw := HNS.out c hc y
                    rw [← hz] at c6 hzw HX4
                    have hll := less_by (hwo.out.snoc HLB2.out).2 hzw.2
                    have f0 := HN6.out.frozen y
                    have hNs : NB < w6.heap.size := HN6.out.lt
                    have HZW := hidden hzw
                    clear hz hzw
                    have HPUT := hidden (And.intro (HS6.out.other (C := NB) (j := y) (sW (u ++ [lb])) (by omega)) (HN6.out.set y (u ++ [lb])))
                    by_cases hz0 : z = []
                    · have HJ := hidden (show nxC D wd has k i N0 (c + 1) = (nxC D wd has k i N0 c).set y (u ++ [lb]) by rw [HX4.out, if_pos (.inl hz0)])
                      have he : (byW z).toList.isEmpty = true := by rw [emptyW]; exact decide_eq_true hz0
                      have he' := listW0 hz0
                      clear hll hz0
                      go_wp2
                      go_roundw
                      case rel => exact ⟨c + 1, by omega, by go_num, HPUT.out.1, by rw [HJ.out]; exact HPUT.out.2, fun e => absurd HON.out e⟩
                      case measure => simp [Go.RowKit.intOf]; omega
                    have he : (byW z).toList.isEmpty = false := by rw [emptyW]; exact decide_eq_false hz0
                    have he' := listW hz0
                    by_cases hlx : lxB (u ++ [lb]) z = true
                    · have HJ := hidden (show nxC D wd has k i N0 (c + 1) = (nxC D wd has k i N0 c).set y (u ++ [lb]) by rw [HX4.out, if_pos (.inr hlx)])
                      rw [hlx] at hll
                      clear hlx hz0
                      go_wp2
                      go_roundw
                      case rel => exact ⟨c + 1, by omega, by go_num, HPUT.out.1, by rw [HJ.out]; exact HPUT.out.2, fun e => absurd HON.out e⟩
                      case measure => simp [Go.RowKit.intOf]; omega
                    · have HJ := hidden (show nxC D wd has k i N0 (c + 1) = nxC D wd has k i N0 c by rw [HX4.out, if_neg (by rintro (e | e); exact hz0 e; exact hlx e)])
                      rw [Bool.eq_false_iff.2 hlx] at hll
                      clear hlx hz0
                      go_wp2
                      go_roundw
                      case rel => exact ⟨c + 1, by omega, by go_num, HS6.out, by rw [HJ.out]; exact HN6.out, fun e => absurd HON.out e⟩
                      case measure => simp [Go.RowKit.intOf]; omega
              · obtain rfl : n = i := by omega
                obtain ⟨N, hN9⟩ : ∃ N, N = nxI D wd has k n := ⟨_, rfl⟩
                have HNS := hidden (nxI_sml HRT.out HSM.out n (has := has) (D := D))
                have HNL := hidden (show (nxI D wd has k n).length = n by rw [nxI_len, HN.out])
                rw [← hN9] at HN3 HNX HNS HNL
                have HML := hidden (fun j => (show (mgI N wd has j).1.length = n ∧ (mgI N wd has j).2.length = n from ⟨(mgI_len j).1.trans HLK.out.1, (mgI_len j).2.trans HLK.out.2⟩))
                clear hN9
                go_wp2
                go_loopw [17] (fun iv wr => ∃ j : Nat, j ≤ n ∧ iv = .int .i64 j ∧ ESt w wr w.heap.size WB (WB + 1) D.cls D.width (.slice an n cn) (.slice al ln cl) (mgI N wd has j).1 (mgI N wd has j).2 ∧ RowAt wr NB 9 sW N) (fun iv _ => n - (Go.RowKit.intOf iv).toNat)
                case atStart => exact ⟨0, by omega, rfl, HS3.out, HN3.out⟩
                case round =>
                  obtain ⟨j, hj, rfl, hS5, hN5⟩ := hrel
                  have HS5 := hidden hS5
                  have HN5 := hidden hN5
                  clear hS5 hN5 HS3 HN3 e2
                  have e2 := HS5.out.d.next
                  by_cases hjn : j < n
                  case neg =>
                    obtain rfl : n = j := by omega
                    have HJ := hidden (show ESt w wr w.heap.size WB (WB + 1) D.cls D.width (.slice an n cn) (.slice al ln cl) (exS D (k + 1)).1 (exS D (k + 1)).2 by rw [HNX.out]; exact HS5.out)
                    have HG4 := hidden (show exM D t = exGo D t (n + 1 - (k + 1)) (k + 1) by rw [HG3.out, show n + 1 - (k + 1) = n - k by omega])
                    go_wp2
                    go_roundw
                    case rel => exact ⟨k + 1, by omega, by go_num, HG4, HJ.out⟩
                    case measure => simp [Go.RowKit.intOf]; omega
                  have hjd : decide ((j : Int) < n) = true := decide_eq_true (by omega)
                  have HMJ := hidden (show mgI N wd has (j + 1) = if N.getD j [] ≠ [] ∧ ¬ On (mgI N wd has j).2 j then ((mgI N wd has j).1.set j (N.getD j []), (mgI N wd has j).2.set j true) else mgI N wd has j from rfl)
                  have c6 := HN5.out.cell (i := j) (by rw [HNL.out]; exact hjn) []
                  have c7 := HS5.out.h.cell (i := j) (by rw [(HML.out j).2]; exact hjn) false
                  obtain ⟨z, hz⟩ : ∃ z, z = N.getD j [] := ⟨_, rfl⟩
                  have hzw := HNS.out j
                  rw [← hz] at c6 hzw HMJ
                  have HZW := hidden hzw
                  clear hz hzw
                  by_cases hz0 : z = []
                  case pos =>
                    have HF := hidden (show mgI N wd has (j + 1) = mgI N wd has j by rw [HMJ.out, if_neg fun e => e.1 hz0])
                    have he : (byW z).toList.isEmpty = true := by rw [emptyW]; exact decide_eq_true hz0
                    have he' := listW0 hz0
                    clear hz0
                    go_wp2
                    go_roundw
                    case rel => exact ⟨j + 1, by omega, by go_num, by rw [HF.out]; exact HS5.out, HN5.out⟩
                    case measure => simp [Go.RowKit.intOf]; omega
                  have he : (byW z).toList.isEmpty = false := by rw [emptyW]; exact decide_eq_false hz0
                  have he' := listW hz0
                  by_cases hoj : On (mgI N wd has j).2 j
                  case pos =>
                    rw [show (mgI N wd has j).2.getD j false = true from hoj] at c7
                    have HF := hidden (show mgI N wd has (j + 1) = mgI N wd has j by rw [HMJ.out, if_neg fun e => e.2 hoj])
                    clear hoj hz0
                    go_wp2
                    go_roundw
                    case rel => exact ⟨j + 1, by omega, by go_num, by rw [HF.out]; exact HS5.out, HN5.out⟩
                    case measure => simp [Go.RowKit.intOf]; omega
                  rw [show (mgI N wd has j).2.getD j false = false from by rw [getD_on]; exact decide_eq_false hoj] at c7
                  have HF := hidden (show mgI N wd has (j + 1) = ((mgI N wd has j).1.set j z, (mgI N wd has j).2.set j true) by rw [HMJ.out, if_pos ⟨hz0, hoj⟩])
                  have HPUT := hidden ((HS5.out.putW j z).putH j true)
                  have HPN := hidden ((HN5.out.other (C := WB) (j := j) (sW z) (by omega)).other (C := WB + 1) (j := j) (.bool true) (by omega))
                  have f1 := HS5.out.r.frozen j
                  have f2 := HS5.out.h.frozen j
                  have c8 := HS5.out.r.cell (i := j) (by rw [(HML.out j).1]; exact hjn) []
                  have h1 : WB < wr.heap.size := HS5.out.r.lt
                  have h2 : WB + 1 < wr.heap.size := HS5.out.h.lt
                  clear hoj hz0
                  go_wp2
                  go_roundw
                  case rel => exact ⟨j + 1, by omega, by go_num, by rw [HF.out]; exact HPUT.out, HPN.out⟩
                  case measure => simp [Go.RowKit.intOf]; omega
end Go.Proofs.YtnjjbaodfjmiaaaGreat
