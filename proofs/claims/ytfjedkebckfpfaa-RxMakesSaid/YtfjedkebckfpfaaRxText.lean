/- Contracts of Text, the program's and the reference's. -/
import Derived.Test.YtfjedkebckfpfaaRxSet
import Derived.Test.YtfjedkebckfpfaaRxConcat
import Derived.Test.YtfjedkebckfpfaaTexts
import Derived.Laws.MakeOwn
import Derived.Maps.AppendAt
namespace Go.Proofs.Ytfjedkebckfpfaa
open Go.RowKit Go.Lib Go.Joins

theorem jn_len (k : Int) : ∀ LL, (jn k LL).length ≤ (ct LL).length + LL.length
  | [] => by simp [jn]
  | x :: r => by
    have : ∀ r, (jt k r).length = (ct r).length + r.length := fun r => by
      induction r with
      | nil => rfl
      | cons y r ih =>
        simp only [jt, ct, List.length_append, List.length_cons, List.length_nil, ih]
        omega
    simp only [jn, ct, List.length_append, List.length_cons, this]
    omega
theorem cat_len (LL : List (List Stp)) : (catV LL).length ≤ (ct LL).length + LL.length + 1 := by
  have := jn_len 3 LL
  unfold catV
  split
  · simp
  · omega
theorem alt_len (LL : List (List Stp)) : (altV LL).length ≤ (ct LL).length + LL.length + 1 := by
  have := jn_len 4 LL
  unfold altV
  split
  · simp
  · omega
/-- the bytes of a text, each as steps -/
def byteL (s : ByteArray) : List (List Stp) := s.data.toList.map fun b => [bStp b.toNat]
theorem byteL_len (s : ByteArray) : (byteL s).length = s.size := by simp [byteL]
theorem byteL_ct (s : ByteArray) : (ct (byteL s)).length = s.size := by
  have : ∀ l : List UInt8, (ct (l.map fun b => [bStp b.toNat])).length = l.length := fun l => by
    induction l with
    | nil => rfl
    | cons b r ih =>
      simp only [List.map_cons, ct, List.length_append, List.length_cons, List.length_nil, ih]
      omega
  rw [byteL, this]
  simp
theorem byteL_get (s : ByteArray) (i : Nat) (h : i < s.size) : (byteL s).getD i [] = [bStp s[i].toNat] := by
  have h' : i < s.data.size := h
  have e : s.data[i]? = some s.data[i] := by simp
  simp only [byteL, List.getD_eq_getElem?_getD, List.getElem?_map, Array.getElem?_toList, e]
  rfl
def textV (s : ByteArray) : List Stp := catV (byteL s)
theorem textV_len (s : ByteArray) : (textV s).length ≤ 2 * s.size + 1 := by
  have h1 := cat_len (byteL s)
  rw [byteL_ct, byteL_len] at h1
  unfold textV
  omega
theorem single_nat (k : Nat) (w : World) (h : k < 256) : Calls Try.prog 30 #[.int .u8 k] w fun e w' => e = .returned (.agg #[.int .u64 (word (fOne k) 0), .int .u64 (word (fOne k) 1), .int .u64 (word (fOne k) 2), .int .u64 (word (fOne k) 3)]) ∧ Below w.heap.size w w' := by
  have := single_calls k w (by omega) (by omega)
  rwa [Int.toNat_natCast] at this
theorem set_byte (k : Nat) (w : World) : Calls Try.prog 16 #[(.agg #[.int .u64 (word (fOne k) 0), .int .u64 (word (fOne k) 1), .int .u64 (word (fOne k) 2), .int .u64 (word (fOne k) 3)])] w (RetX w [bStp k]) := set_rx _ _ _ _ w
theorem rset_byte (k : Nat) (w : World) : Calls Try.prog 17 #[(.agg #[.int .u64 (word (fOne k) 0), .int .u64 (word (fOne k) 1), .int .u64 (word (fOne k) 2), .int .u64 (word (fOne k) 3)])] w (RetX w [bStp k]) := rset_rx _ _ _ _ w

theorem infoSl : (Try.prog.info? 28).map (fun i => (i.zero, i.size, i.bytes)) = some (some (.slice none 0 0), 1, 24) := by kernel_rfl
/-- the row of slices, j of them laid -/
def Parts (w : World) (s : ByteArray) (j : Nat) (wr : World) : Prop :=
  ∃ cur : Array Value, wr.heap[w.heap.size]? = some (.cells cur 28 (0, 0)) ∧ cur.size = s.size ∧ Below w.heap.size w wr ∧
    ∀ i, i < j → ∃ v, cur[i]? = some v ∧ SlX (fun b => w.heap.size < b ∧ b < wr.heap.size) wr v ((byteL s).getD i [])
theorem Parts.frame {w : World} {s : ByteArray} {j : Nat} {wr : World} (h : Parts w s j wr) : Below w.heap.size w wr := by
  obtain ⟨cur, _, _, h3, _⟩ := h
  exact h3
theorem Parts.below {w : World} {s : ByteArray} {j : Nat} {wr w' : World} (h : Parts w s j wr) (hb : Below wr.heap.size wr w') : Parts w s j w' := by
  obtain ⟨cur, h1, h2, h3, h4⟩ := h
  have hlt := (Array.getElem?_eq_some_iff.1 h1).1
  have hsz := hb.size
  refine ⟨cur, (hb.block _ hlt).trans h1, h2, below_then h3 h3.size hb, fun i hi => ?_⟩
  obtain ⟨v, g1, g2⟩ := h4 i hi
  exact ⟨v, g1, g2.below fun b hb' => ⟨⟨hb'.1, by omega⟩, hb.block b hb'.2⟩⟩
theorem Parts.cell {w : World} {s : ByteArray} {j k : Nat} {wr : World} (h : Parts w s j wr) (hk : k < s.size) : (∃ u, wr.cell? ⟨w.heap.size, k, none⟩ = some u) ∧ wr.frozen? ⟨w.heap.size, k, none⟩ = false := by
  obtain ⟨cur, h1, h2, _⟩ := h
  exact ⟨⟨cur[k]'(by omega), by rw [cell_of_row _ _ k _ _ _ h1]; simp⟩, frozen_of_row _ _ k _ _ h1⟩
theorem Parts.put {w : World} {s : ByteArray} {j : Nat} {wr : World} {v : Value} (h : Parts w s j wr) (hj : j < s.size) (hv : SlX (fun b => w.heap.size < b ∧ b < wr.heap.size) wr v ((byteL s).getD j [])) :
    Parts w s (j + 1) (wr.setCell ⟨w.heap.size, j, none⟩ v) := by
  obtain ⟨cur, h1, h2, h3, h4⟩ := h
  have hk : ∀ L u, SlX (fun b => w.heap.size < b ∧ b < wr.heap.size) wr u L → SlX (fun b => w.heap.size < b ∧ b < (wr.setCell ⟨w.heap.size, j, none⟩ v).heap.size) (wr.setCell ⟨w.heap.size, j, none⟩ v) u L := fun L u hu =>
    hu.below fun b hb => ⟨⟨hb.1, by simpa [World.setCell] using hb.2⟩, heap_setCell_other _ _ _ _ (Nat.ne_of_gt hb.1)⟩
  refine ⟨_, heap_setCell_same _ _ j _ _ _ h1, by simpa using h2, h3.setCell (p := ⟨w.heap.size, j, none⟩) (Nat.le_refl _) _, fun i hi => ?_⟩
  by_cases e : i = j
  · subst e
    exact ⟨v, by simp [Array.getElem?_setIfInBounds]; omega, hk _ _ hv⟩
  · obtain ⟨u, g1, g2⟩ := h4 i (by omega)
    exact ⟨u, by rw [Array.getElem?_setIfInBounds_ne (by omega)]; exact g1, hk _ _ g2⟩
theorem Parts.all {w : World} {s : ByteArray} {wr : World} (h : Parts w s s.size wr) (hs : s.size ≤ maxLen) : SlXs (fun b => b < wr.heap.size) wr (.slice (some ⟨w.heap.size, 0, none⟩) s.size s.size) (byteL s) := by
  obtain ⟨cur, h1, h2, h3, h4⟩ := h
  rw [← byteL_len s]
  refine ⟨_, _, rfl, Nat.le_refl _, by rw [byteL_len]; exact hs, rfl, fun _ => ⟨_, 0, rfl, (Array.getElem?_eq_some_iff.1 h1).1, fun i hi => ?_⟩⟩
  rw [byteL_len] at hi
  obtain ⟨v, g1, g2⟩ := h4 i hi
  exact ⟨v, by rw [Nat.zero_add, cell_of_row _ _ i _ _ _ h1]; exact g1, g2.below fun b hb => ⟨hb.2, rfl⟩⟩
set_option maxHeartbeats 2000000 in
set_option maxRecDepth 100000 in
theorem text_calls (s : ByteArray) (w : World) (hs : s.size ≤ 100000) : Calls Try.prog 20 #[.string s] w (RetX w (textV s)) := by
  obtain ⟨i0, hi, hz0, hz1, hz2⟩ := info_parts infoSl
  have hmk : (Instr.makeSlice 22 (.int .i64 (s.size : Int)) (.int .i64 (s.size : Int))).run Try.prog w = .ok (.slice (some ⟨w.heap.size, 0, none⟩) s.size s.size) (w.alloc (.cells (madeCells (Value.slice none 0 0).cells s.size) 28)) := by
    have := run_make (P := Try.prog) w 22 28 i0 _ Try.underlying22 hi hz0 .i64 .i64 s.size s.size (by omega) (by omega) (by rw [hz2]; omega) (by omega)
    simpa [hz1] using this
  have hP0 : Parts w s 0 (w.alloc (.cells (madeCells (Value.slice none 0 0).cells s.size) 28)) :=
    ⟨_, heap_alloc_new _ _, size_madeCells _ _, (Below.refl _ _).alloc (Nat.le_refl _) _, fun i hi => absurd hi (by omega)⟩
  generalize madeCells (Value.slice none 0 0).cells s.size = cur0 at *
  have HP0 := hidden hP0
  clear hP0 hi hz0 hz1 hz2
  go_enter Try.func20, Try.ntmps20
  go_wp2
  go_loopw [10] (fun i wr => ∃ j : Nat, j ≤ s.size ∧ i = .int .i64 j ∧ Parts w s j wr) (fun i _ => s.size - (intOf i).toNat)
  case atStart => exact ⟨0, by omega, rfl, HP0.out⟩
  case round =>
    obtain ⟨j, hj, rfl, hp⟩ := hrel
    have HP := hidden hp
    clear hp
    by_cases hlt : j < s.size
    · have hb256 : s[j].toNat < 256 := UInt8.toNat_lt _
      have HG := hidden (byteL_get s j hlt)
      go_wp2_with fail
      refine (single_nat _ _ hb256).mono ?_
      rintro e w1 ⟨rfl, hb1⟩
      have HP1 := hidden (HP.out.below hb1)
      clear hb1
      go_wp2_with fail
      refine (set_byte _ _).mono ?_
      rintro e w2 ⟨v, rfl, hr, hb2⟩
      have HP2 := hidden (HP1.out.below hb2)
      have HV := hidden (SlX.below (C' := fun b => w.heap.size < b ∧ b < w2.heap.size) (w' := w2) hr.reads fun b hb => ⟨⟨by
        obtain ⟨cur, h1, _⟩ := HP1.out
        have := (Array.getElem?_eq_some_iff.1 h1).1
        omega, hb.2⟩, rfl⟩)
      rw [← HG.out] at HV
      obtain ⟨a1, l1, c1, rfl⟩ := row_slice hr
      obtain ⟨⟨u, hu⟩, hfz⟩ := HP2.out.cell hlt
      clear hr hb2
      go_wp2
      go_roundw
      case rel => exact ⟨j + 1, by omega, by go_num, HP2.out.put hlt HV.out⟩
      case measure => simp [intOf]; omega
    · obtain rfl : j = s.size := by omega
      have HA := hidden (HP.out.all (by unfold maxLen; omega))
      have hlen := textV_len s
      go_wp2_with fail
      refine (cat_calls wr _ (byteL s) HA.out (fun b hb => hb) (by unfold textV at hlen; omega)).mono ?_
      rintro e w2 ⟨v, rfl, hr, hb2⟩
      obtain ⟨a1, l1, c1, rfl⟩ := row_slice hr
      have HR := hidden (And.intro (hr.lower HP.out.frame.size) (below_then HP.out.frame HP.out.frame.size hb2))
      clear hr hb2
      go_wp2
      go_ret
      exact ⟨_, rfl, HR.out.1, HR.out.2⟩

/-! ### the reference's Text: a row of slices that grows -/
def Typed (w : World) (b : Nat) : Prop := ∃ cur, w.heap[b]? = some (.cells cur 44 (0, 0))
theorem RowX.typed {w : World} {base : Nat} {v : Value} {L : List Stp} (h : RowX w base v L) : SlX (Typed w) w v L := by
  have h' := h
  obtain ⟨_, ⟨rfl, h1⟩ | ⟨g, cap, cur, rfl, hb, hg, h1, h2, h3, h4⟩⟩ := h
  · exact ⟨none, 0, by rw [h1], by omega, by decide, fun _ => rfl, rfl, fun h => by omega⟩
  · refine ⟨some ⟨g, 0, none⟩, cap, rfl, h1, h2, (fun e => by cases e), rfl, fun _ => ⟨g, 0, rfl, ⟨cur, hg⟩, fun i hi => ?_⟩⟩
    rw [Nat.zero_add]
    exact rxAt_of_cells hi fun j hj => World.ownsRow.cellAt h' j hj
def Sls (w : World) (s : ByteArray) (j : Nat) (v : Value) (wr : World) : Prop :=
  ∃ vals : List Value, wr.ownsRow w.heap.size 28 1 v j vals ∧ Below w.heap.size w wr ∧ ∀ i, i < j → ∃ u, vals[i]? = some u ∧ SlX (Typed wr) wr u ((byteL s).getD i [])
theorem Sls.frame {w : World} {s : ByteArray} {j : Nat} {v : Value} {wr : World} (h : Sls w s j v wr) : Below w.heap.size w wr := by
  obtain ⟨_, _, h, _⟩ := h
  exact h
theorem typed_kept {w w' : World} {u : Value} {L : List Stp} (h : SlX (Typed w) w u L) (hb : ∀ b, Typed w b → w'.heap[b]? = w.heap[b]?) : SlX (Typed w') w' u L :=
  h.below fun b hb' => ⟨by
    obtain ⟨cur, hc⟩ := hb'
    exact ⟨cur, (hb b ⟨cur, hc⟩).trans hc⟩, hb b hb'⟩
theorem typed_lt {w : World} {b : Nat} (h : Typed w b) : b < w.heap.size := by
  obtain ⟨cur, h⟩ := h
  exact (Array.getElem?_eq_some_iff.1 h).1
theorem Sls.below {w : World} {s : ByteArray} {j : Nat} {v : Value} {wr w' : World} (h : Sls w s j v wr) (hb : Below wr.heap.size wr w') : Sls w s j v w' := by
  obtain ⟨vals, h1, h2, h3⟩ := h
  refine ⟨vals, ⟨h1.1, ?_⟩, below_then h2 h2.size hb, fun i hi => ?_⟩
  · rcases h1.2 with hn | ⟨g, cap, cur, rfl, hb', hgg, rest⟩
    · exact .inl hn
    · exact .inr ⟨g, cap, cur, rfl, hb', by rw [hb.block g (Array.getElem?_eq_some_iff.1 hgg).1]; exact hgg, rest⟩
  · obtain ⟨u, g1, g2⟩ := h3 i hi
    exact ⟨u, g1, typed_kept g2 fun b hb' => hb.block b (typed_lt hb')⟩
theorem Sls.grown {w : World} {s : ByteArray} {j : Nat} {v v' u : Value} {wr w1 : World} {vals : List Value} (h : wr.ownsRow w.heap.size 28 1 v j vals) (hB : Below w.heap.size w wr) (hall : ∀ i, i < j → ∃ u, vals[i]? = some u ∧ SlX (Typed wr) wr u ((byteL s).getD i []))
    (hu : SlX (Typed wr) wr u ((byteL s).getD j [])) (h1 : w1.ownsRow w.heap.size 28 1 v' (j + 1) (vals ++ [u])) (hg : wr.grownBy w1 v.ownBlock) : Sls w s (j + 1) v' w1 := by
  have hk : ∀ b, Typed wr b → w1.heap[b]? = wr.heap[b]? := fun b hb => hg.block b (typed_lt hb) fun e => by
    obtain ⟨cur, hc⟩ := hb
    rcases h.2 with ⟨rfl, _⟩ | ⟨g, cap, cur', rfl, _, hgg, _⟩
    · cases e
    · simp only [Value.ownBlock, Option.some.injEq] at e
      subst e
      rw [hgg] at hc
      simp at hc
  have hlen : vals.length = j := by simpa using h.1
  refine ⟨_, h1, hB.grown hg hB.size fun k e => (h.lt k e).1, fun i hi => ?_⟩
  by_cases e : i = j
  · subst e
    exact ⟨u, by rw [List.getElem?_append_right (by omega), hlen, Nat.sub_self]; rfl, typed_kept hu hk⟩
  · obtain ⟨x, g1, g2⟩ := hall i (by omega)
    exact ⟨x, by rw [List.getElem?_append_left (by omega)]; exact g1, typed_kept g2 hk⟩
theorem Sls.all {w : World} {s : ByteArray} {v : Value} {wr : World} (h : Sls w s s.size v wr) : SlXs (fun b => b < wr.heap.size) wr v (byteL s) := by
  obtain ⟨vals, h1, _, h3⟩ := h
  rcases h1.2 with ⟨rfl, h0⟩ | ⟨g, cap, cur, rfl, hb, hgg, g1, g2, _⟩
  · have e : byteL s = [] := List.eq_nil_of_length_eq_zero (by rw [byteL_len]; exact h0)
    rw [e]
    exact ⟨none, 0, rfl, Nat.le_refl _, by decide, rfl, fun h => absurd h (by simp)⟩
  · have hl := byteL_len s
    refine ⟨some ⟨g, 0, none⟩, cap, by rw [hl], by omega, g2, rfl, fun _ => ⟨g, 0, rfl, (Array.getElem?_eq_some_iff.1 hgg).1, fun i hi => ?_⟩⟩
    obtain ⟨u, q1, q2⟩ := h3 i (by omega)
    exact ⟨u, by rw [Nat.zero_add, World.ownsRow.cellAt h1 i (by omega)]; exact q1, q2.below fun b hb => ⟨typed_lt hb, rfl⟩⟩
theorem sls_nil (w : World) (s : ByteArray) (b : Nat) (hb : b = w.heap.size) (cur : Array Value) (hc : cur = #[]) : Sls w s 0 (.slice (some ⟨b, 0, none⟩) 0 0) (w.alloc (.cells cur 28)) := by
  subst hb hc
  exact ⟨[], World.ownsRow_lit (e := 28) (size := 1) w #[] 0 (Nat.le_refl _) (by decide) rfl, (Below.refl _ _).alloc (Nat.le_refl _) _, fun i hi => absurd hi (by omega)⟩
set_option maxHeartbeats 2000000 in
set_option maxRecDepth 100000 in
theorem rtext_calls (s : ByteArray) (w : World) (hs : s.size ≤ 100000) : Calls Try.prog 21 #[.string s] w (RetX w (textV s)) := by
  obtain ⟨i0, hi, hz0, hz1, hz2⟩ := info_parts infoSl
  go_enter Try.func21, Try.ntmps21
  go_wp2
  go_loopw [3, 4] (fun v i wr => ∃ j : Nat, j ≤ s.size ∧ i = .int .i64 j ∧ Sls w s j v wr) (fun _ i _ => s.size - (intOf i).toNat)
  case atStart => exact ⟨0, by omega, rfl, sls_nil w s _ rfl _ rfl⟩
  case round =>
    obtain ⟨j, hj, rfl, hp⟩ := hrel
    have HP := hidden hp
    clear hp
    by_cases hlt : j < s.size
    · have hb256 : s[j].toNat < 256 := UInt8.toNat_lt _
      have HG := hidden (byteL_get s j hlt)
      go_wp2_with fail
      refine (rone_calls _ _ hb256).mono ?_
      rintro e w1 ⟨rfl, hb1⟩
      have HP1 := hidden (HP.out.below hb1)
      clear hb1
      go_wp2_with fail
      refine (rset_byte _ _).mono ?_
      rintro e w2 ⟨u, rfl, hr, hb2⟩
      have HP2 := hidden ((HP1.out.below hb2).below ((Below.refl w2.heap.size w2).alloc (Nat.le_refl _) (.cells #[u] 28)))
      have HV := hidden (typed_kept (w' := w2.alloc (.cells #[u] 28)) hr.typed fun b hb => heap_alloc_old w2 _ (typed_lt hb))
      rw [← HG.out] at HV
      obtain ⟨a1, l1, c1, rfl⟩ := row_slice hr
      obtain ⟨vals, p1, p2, p3⟩ := HP2.out
      have P1 := hidden p1
      have P2 := hidden p2
      have P3 := hidden p3
      clear hr hb2 p1 p2 p3 HP HP1 HP2
      go_wp2_with (at_builtin; refine wpList_append_own _ rfl _ _ 22 rfl w.heap.size 28 i0 (.slice none 0 0) 1 24 Try.underlying22 hi hz0 hz1 hz2 rfl (by decide) _ j vals rfl P1.out ⟨w2.heap.size, 0, none⟩ 1 1 [.slice a1 l1 c1] rfl rfl ?d1 ?d2 ?d3 ?d4 ?d5 ?_)
      case d1 => exact cell_one_new _ _ _
      case d2 => intro x hx; simp at hx; subst hx; rfl
      case d3 => unfold maxLen; omega
      case d4 => omega
      case d5 => exact P2.out.size
      intro v' w3 hown hgrow _
      have HS := hidden (Sls.grown P1.out P2.out P3.out HV.out hown hgrow)
      rcases ownsRow_forms hown with ⟨_, h0⟩ | ⟨g', cap', rfl⟩
      · omega
      clear hown hgrow
      go_wp2
      go_roundw
      case rel => exact ⟨j + 1, by omega, by go_num, HS.out⟩
      case measure => simp [intOf]; omega
    · obtain rfl : j = s.size := by omega
      have HA := hidden HP.out.all
      have hlen := textV_len s
      go_wp2_with fail
      refine (rcat_calls wr _ (byteL s) HA.out (fun b hb => hb) (by unfold textV at hlen; omega)).mono ?_
      rintro e w2 ⟨v, rfl, hr, hb2⟩
      obtain ⟨a1, l1, c1, rfl⟩ := row_slice hr
      have HR := hidden (And.intro (hr.lower HP.out.frame.size) (below_then HP.out.frame HP.out.frame.size hb2))
      clear hr hb2
      go_wp2
      go_ret
      exact ⟨_, rfl, HR.out.1, HR.out.2⟩
end Go.Proofs.Ytfjedkebckfpfaa
