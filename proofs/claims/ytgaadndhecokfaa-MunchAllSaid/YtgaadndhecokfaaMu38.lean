/- DfOpen, MuLaw, MuSub, MuReg, put together. -/
import Derived.Test.YtgaadndhecokfaaMu37
import Derived.Test.YtgaadndhecokfaaMu13
import Derived.Laws.IdiomArrays
import Derived.Deep.Slices
import Derived.LaidMore
import Derived.Lay
import Derived.Lib.LaidTab
import Derived.SevenTiedAt
import Derived.Stop.Joined
import Derived.Lib.SmallJoins
import Derived.Test.YtgaadndhecokfaaMu22
/- Machines as they come in, by value; what the three listed tables lay. -/
namespace Go.Proofs.Ytgaadndhecokfaa
open Go.ChangeShapes Go.WideShapes Go.ChangeAt Go.RowKit Go.Deep Go.Joins
set_option maxRecDepth 100000
/-- 256 cells that read as an array of bytes -/
theorem trod_arr14 {H : Type} {enc : TypeId × Value → H} {w : World} {base : Nat} {sp : Nat → Bool} {hd : Bool} {fuel : Nat} {cs : List Value} {x : DataW H × List MemPlace} (h : DataW.trod enc Try.prog w base sp hd fuel 22 cs = some x) :
    ∃ g : Nat → Nat, (∀ j, j < 256 → g j < 256) ∧ ∀ j, j < 256 → cs[j]? = some (.int .u8 (g j : Int)) := by
  obtain ⟨xs, m, rfl, hx, hlc, hxl, hi⟩ := DataW.trod_array Try.underlying22 h
  have hc : Try.prog.cellsOf 5 = 1 := by kernel_rfl
  have hone : ∀ j, j < 256 → ∃ n : Nat, n < 256 ∧ cs[j]? = some (.int .u8 (n : Int)) := fun j hj => by
    have h1 := hi j hj
    rw [hc, Nat.mul_one, List.getElem?_eq_getElem (by omega)] at h1
    obtain ⟨n, e, _, wn⟩ := DataW.trod_int Try.underlying5 h1
    have hb := wf_u8 wn
    refine ⟨n.toNat, by omega, ?_⟩
    have h2 : (cs.drop j).take 1 = [Value.int .u8 n] := e
    have h3 := congrArg (fun l => l[0]?) h2
    simp at h3
    rw [h3]
    congr 2
    omega
  exact ⟨fun j => if h : j < 256 then (hone j h).choose else 0, fun j hj => by simp only [hj, dif_pos]; exact (hone j hj).choose_spec.1, fun j hj => by simp only [hj, dif_pos]; exact (hone j hj).choose_spec.2⟩

theorem open_dfa {H : Type} {enc : TypeId × Value → H} {W : World} {b0 : Nat} {v : Value} {d : DataW H} {p : List MemPlace} (hv : Value.okWide Try.prog W .any b0 26 v) (h : DataW.Trod enc Try.prog W 0 (fun _ => true) true 26 v d p) :
    ∃ vn vl D, v = dfaA D.cls D.width vn vl ∧ RdDfa W.heap.size W vn vl D := by
  obtain ⟨cs, rfl, hsz⟩ := okWide_struct Try.underlying26 hv
  obtain ⟨fuel, hf⟩ := h
  obtain ⟨l⟩ := cs
  have hC : Try.prog.cellsOf 26 = 259 := by kernel_rfl
  have hl : l.length = 259 := by simpa [hC] using hsz
  obtain ⟨xs, n, _, hx, _, hxl, hfs⟩ := DataW.trod_struct Try.underlying26 (by simpa [Value.cells] using hf)
  have k0 : Try.prog.cellsOf 22 = 256 := by kernel_rfl
  have k1 : Try.prog.cellsOf 3 = 1 := by kernel_rfl
  have k2 : Try.prog.cellsOf 23 = 1 := by kernel_rfl
  have k3 : Try.prog.cellsOf 24 = 1 := by kernel_rfl
  have h0 := hfs 0 _ rfl
  have h1 := hfs 1 _ rfl
  have h2 := hfs 2 _ rfl
  have h3 := hfs 3 _ rfl
  have one : ∀ i (hi : i < 259), (l.drop i).take 1 = [l[i]] := fun i hi => by
    rw [List.drop_eq_getElem_cons (by omega)]
    rfl
  have hx4 : xs.length = 4 := hxl
  obtain ⟨y0, y1, y2, y3, rfl⟩ : ∃ a b c d, xs = [a, b, c, d] := by
    match xs, hx4 with
    | [a, b, c, d], _ => exact ⟨a, b, c, d, rfl⟩
  have h0 : DataW.trod enc Try.prog W 0 (fun _ => true) true n 22 ((l.drop 0).take (Try.prog.cellsOf 22)) = some y0 := h0
  have h1 : DataW.trod enc Try.prog W 0 (fun _ => true) true n 3 ((l.drop 256).take (Try.prog.cellsOf 3)) = some y1 := h1
  have h2 : DataW.trod enc Try.prog W 0 (fun _ => true) true n 23 ((l.drop 257).take (Try.prog.cellsOf 23)) = some y2 := h2
  have h3 : DataW.trod enc Try.prog W 0 (fun _ => true) true n 24 ((l.drop 258).take (Try.prog.cellsOf 24)) = some y3 := h3
  rw [k0, List.drop_zero] at h0
  rw [k1] at h1
  rw [k2] at h2
  rw [k3] at h3
  obtain ⟨g, g1, g2⟩ := trod_arr14 h0
  rw [one _ (by decide)] at h1 h2 h3
  obtain ⟨z, e1, _⟩ := DataW.trod_int Try.underlying3 h1
  obtain ⟨F, r2⟩ := open_rdZZ Try.underlying23 h2
  obtain ⟨L, r3, _⟩ := open_rdZ Try.underlying24 h3
  refine ⟨_, _, ⟨g, z, F, L⟩, ?_, ⟨r2, r3, g1⟩⟩
  show Value.agg ⟨l⟩ = .agg (dfaC g z _ _)
  congr 1
  apply Array.ext
  · rw [dfaC_size]; simpa using hl
  · intro j q1 q2
    have hj : j < 259 := by rw [dfaC_size] at q2; exact q2
    obtain ⟨d0, d1, d2⟩ := dfaC_rest g z (l[257]'(by omega)) (l[258]'(by omega))
    have q3 := Array.getElem?_eq_getElem q2
    by_cases c1 : j < 256
    · have e := g2 j c1
      have e2 := dfaC_cls g z (l[257]'(by omega)) (l[258]'(by omega)) c1
      rw [q3] at e2
      rw [List.getElem?_take, if_pos c1, List.getElem?_eq_getElem (by omega)] at e
      exact (Option.some.inj e).trans (Option.some.inj e2).symm
    · have hj3 : j = 256 ∨ j = 257 ∨ j = 258 := by omega
      rcases hj3 with rfl | rfl | rfl
      · rw [q3] at d0
        exact (List.head_eq_of_cons_eq e1).trans (Option.some.inj d0).symm
      · rw [q3] at d1
        exact (Option.some.inj d1).symm
      · rw [q3] at d2
        exact (Option.some.inj d2).symm
end Go.Proofs.Ytgaadndhecokfaa

/- What the laws of stage 16 share: a piece that comes in; what the laws ask ahead. -/
namespace Go.Proofs.Ytgaadndhecokfaa
open Go.RowKit Go.Lib Go.Joins

theorem wf_i64 {n : Int} (h : (Lit.int .i64 n).wf = true) : -9223372036854775808 ≤ n ∧ n ≤ 9223372036854775807 := by
  simpa [Lit.wf, IntKind.min, IntKind.max, IntKind.signed, IntKind.bits] using h
section
open Go.ChangeShapes Go.WideShapes Go.ChangeAt Go.Joins Go.Deep
theorem laidOut : laidOutB Try.prog = true := by kernel_rfl
theorem read_len {H : Type} {enc : TypeId × Value → H} {W : World} {b : Nat} {sp : Nat → Bool} {hd : Bool} : ∀ {ts : List TypeId} {vs : List Value} {ds : List (DataW H)} {ps : List MemPlace},
    DataW.TrodAll enc Try.prog W b sp hd ts vs ds ps → ds.length = ts.length
  | [], vs, ds, ps, h => by
    obtain ⟨rfl, rfl, rfl⟩ := trodAll_nil h
    rfl
  | t :: ts, vs, ds, ps, h => by
    obtain ⟨v, vs', d, ds', p, q, rfl, rfl, rfl, h0, h1⟩ := trodAll_cons h
    simp [read_len h1]
theorem all_read {H : Type} {enc : TypeId × Value → H} {W W' : World} (hb : Below W.heap.size W W') : ∀ {ts : List TypeId} {vs : List Value} {ds : List (DataW H)} {ps : List MemPlace},
    (∀ t ∈ ts, Try.prog.readableRec t = true ∧ t < Try.prog.types.size) → DataW.TrodAll enc Try.prog W 0 (fun _ => true) true ts vs ds ps → (∀ x ∈ ps, x.block < W.heap.size) →
    DataW.TrodAll enc Try.prog W' 0 (fun b => decide (b < W.heap.size)) true ts vs ds ps
  | [], vs, ds, ps, _, h, _ => by
    obtain ⟨rfl, rfl, rfl⟩ := trodAll_nil h
    exact trodAll_mk0
  | t :: ts, vs, ds, ps, hr, h, hlt => by
    obtain ⟨v, vs', d, ds', p, q, rfl, rfl, rfl, h0, h1⟩ := trodAll_cons h
    exact trodAll_cons_mk (Below.trod laidOut (hr t (List.mem_cons_self ..)).1 (hr t (List.mem_cons_self ..)).2 h0 hb (fun x hx => hlt x (List.mem_append_left _ hx)))
      (all_read hb (fun t' ht' => hr t' (List.mem_cons_of_mem _ ht')) h1 (fun x hx => hlt x (List.mem_append_right _ hx)))
theorem ends_true {H : Type} {enc : TypeId × Value → H} {f : Func} {s : ChangeSpec} {W W' : World} {args : Array Value} {ds gs : List (DataW H)} {before : List MemPlace}
    (hW : DataW.Whole enc Try.prog f.params.toList s.vars false W args.toList ds gs before) (hv : s.vars = []) (hres : f.resultTypes = #[4])
    (hfn : ∀ xs : List (DataW H), xs.length = f.params.toList.length → s.fn H xs = { results := [.lit (.bool true)], args := xs })
    (hread : (f.params.toList.all fun t => Try.prog.readableRec t && decide (t < Try.prog.types.size)) = true) (hb : Below W.heap.size W W') :
    s.post enc Try.prog f false true false false W args (.bool true) W' := by
  have hW' := hW
  obtain ⟨p, q, hA, hV, rfl, hfz, hnd⟩ := hW
  have hlt : ∀ x ∈ p ++ q, x.block < W.heap.size := fun x hx => hW'.lt x hx
  have hread' : ∀ t ∈ f.params.toList, Try.prog.readableRec t = true ∧ t < Try.prog.types.size := fun t ht => by
    have := List.all_eq_true.1 hread t ht
    simpa using this
  have hlen := read_len hA
  rw [hv] at hV
  obtain ⟨rfl, rfl⟩ := trodVars_none hV
  have e := hfn (ds ++ []) (by simpa using hlen)
  refine ⟨ds, [], _, [], p, [], hW', ?_, ?_, ?_, hb.frame _, fun h => by cases h⟩
  · rw [e, hres]
    exact trodAll_mk1 (shut_bool Try.underlying4 _)
  · rw [e, List.append_nil]
    exact all_read hb hread' hA (fun x hx => hlt x (List.mem_append_left _ hx))
  · rw [e, hv]
    rfl
set_option maxRecDepth 100000 in
theorem open_pc {H : Type} {enc : TypeId × Value → H} {w : World} {base : Nat} {sp : Nat → Bool} {hd : Bool} {r : Reach} {b0 : Nat} {v : Value} {d : DataW H} {p : List MemPlace}
    (hv : Value.okWide Try.prog w r b0 33 v) (h : DataW.Trod enc Try.prog w base sp hd 33 v d p) : ∃ (a : Int) (b : ByteArray), v = .agg #[.int .i64 a, .string b] ∧ b.size ≤ maxLen := by
  obtain ⟨v0, v1, y0, y1, n, rfl, _, _, h0, h1⟩ := open_agg2 Try.underlying33 (by kernel_rfl) (by kernel_rfl) hv h
  obtain ⟨x0, k0, _, _⟩ := DataW.trod_int Try.underlying3 h0
  obtain ⟨x1, k1, _, w1⟩ := DataW.trod_string Try.underlying9 h1
  simp at k0 k1
  subst k0 k1
  exact ⟨x0, x1, rfl, w1⟩
end
theorem joinS_cut {D : DfaM} (hR : rightD D = true) (s : ByteArray) : joinS (cutS D s) = s := by
  have e : joinS (cutS D s) = txt (joinP (cutP D s.data.toList)) := by
    unfold joinS cutS joinP
    rw [if_pos hR, List.flatMap_map]
    rfl
  rw [e, cut_join _ _ rfl]
  rfl
theorem join_size (D : DfaM) (s : ByteArray) : (joinS (cutS D s)).size ≤ s.size := by
  cases hR : rightD D with
  | true => rw [joinS_cut hR]; exact Nat.le_refl _
  | false =>
    have e : cutS D s = [] := by unfold cutS; rw [if_neg (by simp [hR])]
    rw [e]
    exact Nat.zero_le _
end Go.Proofs.Ytgaadndhecokfaa

/- Parts of a slice of pieces; what the pieces behind the first ones are. -/
namespace Go.Proofs.Ytgaadndhecokfaa
open Go.RowKit Go.Lib Go.Joins

theorem elem_pc : Try.prog.underlying 34 = some (.slice (Try.prog.elem 34)) := by kernel_rfl
theorem size_pc (W : World) : (sizeOf (Try.prog.elem 34)).run Try.prog W = .ok 2 W := by kernel_rfl
theorem cut_front {xb xo m c r : Nat} (hr : r ≤ m) (hm : m ≤ c) (W : World) : (Instr.slice 34 (.slice (some ⟨xb, xo, none⟩) m c) none (some (.int .i64 (r : Int))) none).run Try.prog W = .ok (.slice (some ⟨xb, xo, none⟩) r c) W := by
  rw [run_slice_h W 34 (some ⟨xb, xo, none⟩) m c elem_pc .i64 (r : Int) (by omega) (by omega), size_pc]
  simp [Result.andThen, sliced, Addr.add]
theorem cut_back {xb xo m c r : Nat} (hr : r < m) (hm : m ≤ c) (W : World) : (Instr.slice 34 (.slice (some ⟨xb, xo, none⟩) m c) (some (.int .i64 (r : Int))) none none).run Try.prog W = .ok (.slice (some ⟨xb, xo + r * 2, none⟩) (m - r) (c - r)) W := by
  have h := run_slice_l W 34 (some ⟨xb, xo, none⟩) m c elem_pc .i64 (r : Int) (by omega) (by omega)
  rw [h, size_pc]
  have hne : ¬ c = r := by omega
  simp [Result.andThen, sliced, Addr.add, hne]
theorem RdP.take {B : Nat} {w : World} {a : Option Addr} {n c : Nat} {l : List Pc} (h : RdP B w (.slice a n c) l) {r : Nat} (hr : r ≤ l.length) : RdP B w (.slice a r c) (l.take r) := by
  obtain ⟨a', cap, e, h1, h2, h3⟩ := h
  simp only [Value.slice.injEq] at e
  obtain ⟨rfl, _, rfl⟩ := e
  have hl : (l.take r).length = r := by rw [List.length_take]; omega
  refine ⟨a, c, by rw [hl], by omega, h2, fun hp => ?_⟩
  obtain ⟨b, off, e1, hb, hc⟩ := h3 (by omega)
  refine ⟨b, off, e1, hb, fun i hi => ?_⟩
  have e : (l.take r).getD i (0, ⟨#[]⟩) = l.getD i (0, ⟨#[]⟩) := by
    rw [List.getD_eq_getElem?_getD, List.getD_eq_getElem?_getD, List.getElem?_take, if_pos (by omega)]
  rw [e]
  exact hc i (by omega)
theorem RdP.drop {B : Nat} {w : World} {xb xo n c : Nat} {l : List Pc} (h : RdP B w (.slice (some ⟨xb, xo, none⟩) n c) l) {r : Nat} (hr : r < l.length) : RdP B w (.slice (some ⟨xb, xo + r * 2, none⟩) (l.length - r) (c - r)) (l.drop r) := by
  obtain ⟨a', cap, e, h1, h2, h3⟩ := h
  simp only [Value.slice.injEq] at e
  obtain ⟨rfl, _, rfl⟩ := e
  have hl : (l.drop r).length = l.length - r := List.length_drop
  refine ⟨_, c - r, by rw [hl], by omega, Nat.le_trans (Nat.sub_le _ _) h2, fun _ => ?_⟩
  obtain ⟨b, off, e1, hb, hc⟩ := h3 (by omega)
  simp only [Option.some.injEq, Addr.mk.injEq, and_true] at e1
  obtain ⟨rfl, rfl⟩ := e1
  refine ⟨xb, xo + r * 2, rfl, hb, fun i hi => ?_⟩
  have e : (l.drop r).getD i (0, ⟨#[]⟩) = l.getD (r + i) (0, ⟨#[]⟩) := by
    rw [List.getD_eq_getElem?_getD, List.getD_eq_getElem?_getD, List.getElem?_drop]
  rw [e, show xo + r * 2 + i * 2 = xo + (r + i) * 2 by omega]
  exact hc (r + i) (by omega)
theorem join_pk (l : List (Int × List UInt8)) : joinS (l.map pk) = txt (joinP l) := by
  unfold joinS joinP
  rw [List.flatMap_map]
  rfl
/-- behind the first r pieces the rest is cut by itself; the r-th piece is cut into itself -/
theorem parts_says {D : DfaM} (hR : rightD D = true) (s : ByteArray) (r : Nat) (hr : r < (cutS D s).length) :
    (joinS ((cutS D s).take r)).size ≤ s.size ∧ s.extract 0 (joinS ((cutS D s).take r)).size = joinS ((cutS D s).take r) ∧ cutS D (s.extract (joinS ((cutS D s).take r)).size s.size) = (cutS D s).drop r ∧ wholeV D ((cutS D s).getD r (0, ⟨#[]⟩)) = true := by
  have hc : ∀ z : ByteArray, cutS D z = (cutP D z.data.toList).map pk := fun z => by unfold cutS; rw [if_pos hR]
  rw [hc s, List.length_map] at hr
  have hj : joinS ((cutS D s).take r) = txt (joinP ((cutP D s.data.toList).take r)) := by rw [hc s, ← List.map_take, join_pk]
  obtain ⟨⟨v, hv⟩, h2⟩ := cut_rest (D := D) r s.data.toList (by omega)
  have hsz : (joinS ((cutS D s).take r)).size = (joinP ((cutP D s.data.toList).take r)).length := by rw [hj]; rfl
  have hle : (joinP ((cutP D s.data.toList).take r)).length ≤ s.size := by
    have := congrArg List.length hv
    rw [List.length_append, list_len] at this
    omega
  refine ⟨by rw [hsz]; exact hle, ?_, ?_, ?_⟩
  · rw [hsz, txt_extract, hj, List.drop_zero]
    congr 1
    conv => lhs; arg 2; rw [← hv]
    rw [List.take_left' rfl]
  · rw [hsz, hc, hc s, part_list, List.take_of_length_le (by rw [List.length_drop, list_len]; omega), h2, List.map_drop]
  · obtain ⟨p, hp⟩ : ∃ p, (cutP D s.data.toList)[r]? = some p := ⟨_, List.getElem?_eq_getElem hr⟩
    obtain ⟨h3, h4⟩ := cut_whole r _ p hp
    have e : (cutS D s).getD r (0, ⟨#[]⟩) = pk p := by rw [hc s, List.getD_eq_getElem?_getD, List.getElem?_map, hp]; rfl
    rw [e]
    unfold wholeV
    have hne : ¬ (pk p).2 = ⟨#[]⟩ := fun h => by
      have := congrArg (fun z : ByteArray => z.data.toList) h
      dsimp only [pk] at this
      rw [txt_data] at this
      exact h3 this
    rw [decide_eq_true hne, Bool.true_and]
    refine decide_eq_true ?_
    rw [hc]
    dsimp only [pk]
    rw [txt_data, h4]
    rfl
theorem cutS_len16 (D : DfaM) (s : ByteArray) : (cutS D s).length ≤ s.size := by
  unfold cutS
  split
  · rw [List.length_map]; exact cut_len s.size _ (list_len s)
  · simp
end Go.Proofs.Ytgaadndhecokfaa

/- The two regions of MunchAll's loops that decide, each way by itself, over any frame. -/
namespace Go.Proofs.Ytgaadndhecokfaa
open Go.RowKit Go.Lib Go.Joins
attribute [local go_sem] Rl.evalR_tmp Rl.evalR_const Rl.evalR_global Rl.evalR_func

/-- the region of this number -/
def findReg (n : Nat) : Code → Option Code
  | .region i o d => if i == n then some (.region i o d) else none
  | .seq a b => match findReg n a with
    | some c => some c
    | none => findReg n b
  | .block _ c => findReg n c
  | .scope c => findReg n c
  | .loop c => findReg n c
  | .cond _ a b => match findReg n a with
    | some c => some c
    | none => findReg n b
  | _ => none
def opsOf : Code → Array Oper
  | .region _ o _ => o
  | _ => #[]
noncomputable def allReg (n : Nat) : Code := ((Try.f5.body.bind (findReg n)).getD .skip)
set_option maxHeartbeats 8000000 in
set_option maxRecDepth 100000 in
theorem reg11_none {Q : Exit → Act → World → Prop} {a0 : Act} {wr : World}      {xb xo m c7 i n : Nat} {t : Int} (hsz : a0.tmps.size = 138) (h5 : a0.tmps.getD 5 undef = .slice (some ⟨xb, xo, none⟩) m c7) (h7 : a0.tmps.getD 7 undef = .int .i64 (i : Int)) (h8 : a0.tmps.getD 8 undef = .int .i64 (n : Int)) (HC0 : Hid (∀ W, Below wr.heap.size wr W → W.cell? ⟨xb, xo + i * 2, none⟩ = some (.int .i64 t))) (hki : (i : Int) < (m : Int)) (hn0 : ((n : Int) == 0) = false) (k1 : decide (t < 0) = true) (k2' : (t != -1) = false) (k3' : ((n : Int) != 1) = false) (k4 : decide (0 ≤ t) = false) (hQ : ∀ a1 w1, Rl.Still (opsOf (allReg 11)) a0 a1 → a1.tmps.getD 95 undef = .bool false → Below wr.heap.size wr w1 → Q .normal a1 w1) : (allReg 11).wp Try.prog Q a0 wr := by
  conv => arg 2; whnf
  refine Rl.wp_region_stepsN (R := fun w1 w2 => Below w1.heap.size w1 w2) (Rl.typ [Rl.Is (.int .i64 (n : Int)), Rl.Is (.bool false), Rl.Is (.bool false), Rl.Is (.slice (some ⟨xb, xo, none⟩) m c7), Rl.Is (.int .i64 (i : Int)), Rl.Is (.pointer (some ⟨xb, xo + i * 2, none⟩)), Rl.Is (.pointer (some ⟨xb, xo + i * 2, none⟩)), Rl.Is (.int .i64 t), Rl.Is (.bool true), Rl.Is (.bool true), Rl.Is (.slice (some ⟨xb, xo, none⟩) m c7), Rl.Is (.int .i64 (i : Int)), Rl.Is (.pointer (some ⟨xb, xo + i * 2, none⟩)), Rl.Is (.pointer (some ⟨xb, xo + i * 2, none⟩)), Rl.Is (.int .i64 t), Rl.Is (.bool false), Rl.Is (.bool false), Rl.Is (.int .i64 (n : Int)), Rl.Is (.bool false), Rl.Is (.bool false), Rl.Is (.bool false), Rl.Is (.bool false), Rl.Is (.bool false), Rl.Is (.slice (some ⟨xb, xo, none⟩) m c7), Rl.Is (.int .i64 (i : Int)), Rl.Is (.pointer (some ⟨xb, xo + i * 2, none⟩)), Rl.Is (.pointer (some ⟨xb, xo + i * 2, none⟩)), Rl.Is (.int .i64 t), Rl.Is (.bool false), Rl.Is (.bool false), Rl.Is (undef), Rl.Is (undef), Rl.Is (undef), Rl.Is (undef), Rl.Is (undef), Rl.Is (undef), Rl.Is (undef), Rl.Is (undef), Rl.Is (undef), Rl.Is (undef), Rl.Is (undef), Rl.Is (undef), Rl.Is (undef), Rl.Is (undef), Rl.Is (undef), Rl.Is (.bool false), Rl.Is (.bool false)]) (fun w1 => Below wr.heap.size wr w1) (fun w1 => Below.refl _ _) (by kernel_rfl) (by rw [hsz]; kernel_rfl) (by kernel_rfl) (by kernel_rfl) ?mono (Below.refl _ _).drew ?step ?fin
  case mono =>
    refine Rl.typ_mono ?_
    simp only [List.forall_mem_cons]
    repeat' (first | exact (fun v w w' h _ => h) | (intro p hp; cases hp; done) | refine And.intro ?_ ?_)
  case step =>
    refine ⟨?_, ?_, ?_, ?_, ?_, ?_, ?_, ?_, ?_, ?_, ?_, ?_, ?_, ?_, ?_, ?_, ?_, ?_, ?_, ?_, ?_, ?_, ?_, ?_, ?_, ?_, ?_, ?_, ?_, ?_, ?_, ?_, ?_, ?_, ?_, ?_, ?_, ?_, ?_, ?_, ?_, ?_, ?_, ?_, ?_, ?_, ?_, trivial⟩
    · intro ρ w1 hF hW
      have e8 : ρ 8 = .int .i64 (n : Int) := (show ρ 8 = a0.tmps.getD 8 undef from hF 8 (by decide)).trans h8
      have HW := hidden hW
      clear hF hW
      unfold Rl.Does
      go_simp
      first
        | exact ⟨rfl, HW.out, Below.refl _ _⟩
        | (simp; exact ⟨rfl, HW.out, Below.refl _ _⟩)
    · intro ρ w1 hF hW
      have e49 : ρ 49 = .int .i64 (n : Int) := hF 49 (by decide)
      have HW := hidden hW
      clear hF hW
      unfold Rl.Does
      go_simp
      first
        | exact ⟨rfl, HW.out, Below.refl _ _⟩
        | (simp; exact ⟨rfl, HW.out, Below.refl _ _⟩)
    · intro ρ w1 hF hW
      have e50 : ρ 50 = .bool false := hF 50 (by decide)
      have HW := hidden hW
      clear hF hW
      unfold Rl.Does
      go_simp
      first
        | exact ⟨rfl, HW.out, Below.refl _ _⟩
        | (simp; exact ⟨rfl, HW.out, Below.refl _ _⟩)
    · refine .inl ⟨false, fun v w h => h, fun _ => ?_, fun h => absurd rfl h⟩
      intro ρ w1 hF hW
      have e5 : ρ 5 = .slice (some ⟨xb, xo, none⟩) m c7 := (show ρ 5 = a0.tmps.getD 5 undef from hF 5 (by decide)).trans h5
      have HW := hidden hW
      clear hF hW
      unfold Rl.Does
      go_simp
      first
        | exact ⟨rfl, HW.out, Below.refl _ _⟩
        | (simp; exact ⟨rfl, HW.out, Below.refl _ _⟩)
    · refine .inl ⟨false, fun v w h => h, fun _ => ?_, fun h => absurd rfl h⟩
      intro ρ w1 hF hW
      have e7 : ρ 7 = .int .i64 (i : Int) := (show ρ 7 = a0.tmps.getD 7 undef from hF 7 (by decide)).trans h7
      have HW := hidden hW
      clear hF hW
      unfold Rl.Does
      go_simp
      first
        | exact ⟨rfl, HW.out, Below.refl _ _⟩
        | (simp; exact ⟨rfl, HW.out, Below.refl _ _⟩)
    · refine .inl ⟨false, fun v w h => h, fun _ => ?_, fun h => absurd rfl h⟩
      intro ρ w1 hF hW
      have e52 : ρ 52 = .slice (some ⟨xb, xo, none⟩) m c7 := hF 52 (by decide)
      have e53 : ρ 53 = .int .i64 (i : Int) := hF 53 (by decide)
      have HW := hidden hW
      clear hF hW
      unfold Rl.Does
      go_simp
      first
        | exact ⟨rfl, HW.out, Below.refl _ _⟩
        | (simp; exact ⟨rfl, HW.out, Below.refl _ _⟩)
    · refine .inl ⟨false, fun v w h => h, fun _ => ?_, fun h => absurd rfl h⟩
      intro ρ w1 hF hW
      have e54 : ρ 54 = .pointer (some ⟨xb, xo + i * 2, none⟩) := hF 54 (by decide)
      have HW := hidden hW
      clear hF hW
      unfold Rl.Does
      go_simp
      first
        | exact ⟨rfl, HW.out, Below.refl _ _⟩
        | (simp; exact ⟨rfl, HW.out, Below.refl _ _⟩)
    · refine .inl ⟨false, fun v w h => h, fun _ => ?_, fun h => absurd rfl h⟩
      intro ρ w1 hF hW
      have e55 : ρ 55 = .pointer (some ⟨xb, xo + i * 2, none⟩) := hF 55 (by decide)
      have HW := hidden hW
      have c0 := HC0.out _ hW
      clear hF hW
      unfold Rl.Does
      go_simp
      first
        | exact ⟨rfl, HW.out, Below.refl _ _⟩
        | (simp; exact ⟨rfl, HW.out, Below.refl _ _⟩)
    · refine .inl ⟨false, fun v w h => h, fun _ => ?_, fun h => absurd rfl h⟩
      intro ρ w1 hF hW
      have e56 : ρ 56 = .int .i64 t := hF 56 (by decide)
      have HW := hidden hW
      clear hF hW
      unfold Rl.Does
      go_simp
      first
        | exact ⟨rfl, HW.out, Below.refl _ _⟩
        | (simp; exact ⟨rfl, HW.out, Below.refl _ _⟩)
    · refine .inl ⟨false, fun v w h => h, fun _ => ?_, fun h => absurd rfl h⟩
      intro ρ w1 hF hW
      have e57 : ρ 57 = .bool true := hF 57 (by decide)
      have HW := hidden hW
      clear hF hW
      unfold Rl.Does
      go_simp
      first
        | exact ⟨rfl, HW.out, Below.refl _ _⟩
        | (simp; exact ⟨rfl, HW.out, Below.refl _ _⟩)
    · refine .inl ⟨true, fun v w h => h, fun _ => ?_, fun h => absurd rfl h⟩
      intro ρ w1 hF hW
      have e5 : ρ 5 = .slice (some ⟨xb, xo, none⟩) m c7 := (show ρ 5 = a0.tmps.getD 5 undef from hF 5 (by decide)).trans h5
      have HW := hidden hW
      clear hF hW
      unfold Rl.Does
      go_simp
      first
        | exact ⟨rfl, HW.out, Below.refl _ _⟩
        | (simp; exact ⟨rfl, HW.out, Below.refl _ _⟩)
    · refine .inl ⟨true, fun v w h => h, fun _ => ?_, fun h => absurd rfl h⟩
      intro ρ w1 hF hW
      have e7 : ρ 7 = .int .i64 (i : Int) := (show ρ 7 = a0.tmps.getD 7 undef from hF 7 (by decide)).trans h7
      have HW := hidden hW
      clear hF hW
      unfold Rl.Does
      go_simp
      first
        | exact ⟨rfl, HW.out, Below.refl _ _⟩
        | (simp; exact ⟨rfl, HW.out, Below.refl _ _⟩)
    · refine .inl ⟨true, fun v w h => h, fun _ => ?_, fun h => absurd rfl h⟩
      intro ρ w1 hF hW
      have e59 : ρ 59 = .slice (some ⟨xb, xo, none⟩) m c7 := hF 59 (by decide)
      have e60 : ρ 60 = .int .i64 (i : Int) := hF 60 (by decide)
      have HW := hidden hW
      clear hF hW
      unfold Rl.Does
      go_simp
      first
        | exact ⟨rfl, HW.out, Below.refl _ _⟩
        | (simp; exact ⟨rfl, HW.out, Below.refl _ _⟩)
    · refine .inl ⟨true, fun v w h => h, fun _ => ?_, fun h => absurd rfl h⟩
      intro ρ w1 hF hW
      have e61 : ρ 61 = .pointer (some ⟨xb, xo + i * 2, none⟩) := hF 61 (by decide)
      have HW := hidden hW
      clear hF hW
      unfold Rl.Does
      go_simp
      first
        | exact ⟨rfl, HW.out, Below.refl _ _⟩
        | (simp; exact ⟨rfl, HW.out, Below.refl _ _⟩)
    · refine .inl ⟨true, fun v w h => h, fun _ => ?_, fun h => absurd rfl h⟩
      intro ρ w1 hF hW
      have e62 : ρ 62 = .pointer (some ⟨xb, xo + i * 2, none⟩) := hF 62 (by decide)
      have HW := hidden hW
      have c0 := HC0.out _ hW
      clear hF hW
      unfold Rl.Does
      go_simp
      first
        | exact ⟨rfl, HW.out, Below.refl _ _⟩
        | (simp; exact ⟨rfl, HW.out, Below.refl _ _⟩)
    · refine .inl ⟨true, fun v w h => h, fun _ => ?_, fun h => absurd rfl h⟩
      intro ρ w1 hF hW
      have e63 : ρ 63 = .int .i64 t := hF 63 (by decide)
      have HW := hidden hW
      clear hF hW
      unfold Rl.Does
      go_simp
      first
        | exact ⟨rfl, HW.out, Below.refl _ _⟩
        | (simp; exact ⟨rfl, HW.out, Below.refl _ _⟩)
    · refine .inl ⟨true, fun v w h => h, fun _ => ?_, fun h => absurd rfl h⟩
      intro ρ w1 hF hW
      have e64 : ρ 64 = .bool false := hF 64 (by decide)
      have HW := hidden hW
      clear hF hW
      unfold Rl.Does
      go_simp
      first
        | exact ⟨rfl, HW.out, Below.refl _ _⟩
        | (simp; exact ⟨rfl, HW.out, Below.refl _ _⟩)
    · refine .inl ⟨false, fun v w h => h, fun _ => ?_, fun h => absurd rfl h⟩
      intro ρ w1 hF hW
      have e8 : ρ 8 = .int .i64 (n : Int) := (show ρ 8 = a0.tmps.getD 8 undef from hF 8 (by decide)).trans h8
      have HW := hidden hW
      clear hF hW
      unfold Rl.Does
      go_simp
      first
        | exact ⟨rfl, HW.out, Below.refl _ _⟩
        | (simp; exact ⟨rfl, HW.out, Below.refl _ _⟩)
    · refine .inl ⟨false, fun v w h => h, fun _ => ?_, fun h => absurd rfl h⟩
      intro ρ w1 hF hW
      have e66 : ρ 66 = .int .i64 (n : Int) := hF 66 (by decide)
      have HW := hidden hW
      clear hF hW
      unfold Rl.Does
      go_simp
      first
        | exact ⟨rfl, HW.out, Below.refl _ _⟩
        | (simp; exact ⟨rfl, HW.out, Below.refl _ _⟩)
    · refine .inl ⟨true, fun v w h => h, fun _ => ?_, fun h => absurd rfl h⟩
      intro ρ w1 hF hW
      have e65 : ρ 65 = .bool false := hF 65 (by decide)
      have e67 : ρ 67 = .bool false := hF 67 (by decide)
      have HW := hidden hW
      clear hF hW
      unfold Rl.Does
      go_simp
      first
        | exact ⟨rfl, HW.out, Below.refl _ _⟩
        | (simp; exact ⟨rfl, HW.out, Below.refl _ _⟩)
    · refine .inl ⟨false, fun v w h => h, fun _ => ?_, fun h => absurd rfl h⟩
      intro ρ w1 hF hW
      have e58 : ρ 58 = .bool true := hF 58 (by decide)
      have e68 : ρ 68 = .bool false := hF 68 (by decide)
      have HW := hidden hW
      clear hF hW
      unfold Rl.Does
      go_simp
      first
        | exact ⟨rfl, HW.out, Below.refl _ _⟩
        | (simp; exact ⟨rfl, HW.out, Below.refl _ _⟩)
    · intro ρ w1 hF hW
      have e51 : ρ 51 = .bool false := hF 51 (by decide)
      have e69 : ρ 69 = .bool false := hF 69 (by decide)
      have HW := hidden hW
      clear hF hW
      unfold Rl.Does
      go_simp
      first
        | exact ⟨rfl, HW.out, Below.refl _ _⟩
        | (simp; exact ⟨rfl, HW.out, Below.refl _ _⟩)
    · intro ρ w1 hF hW
      have e70 : ρ 70 = .bool false := hF 70 (by decide)
      have HW := hidden hW
      clear hF hW
      unfold Rl.Does
      go_simp
      first
        | exact ⟨rfl, HW.out, Below.refl _ _⟩
        | (simp; exact ⟨rfl, HW.out, Below.refl _ _⟩)
    · refine .inl ⟨false, fun v w h => h, fun _ => ?_, fun h => absurd rfl h⟩
      intro ρ w1 hF hW
      have e5 : ρ 5 = .slice (some ⟨xb, xo, none⟩) m c7 := (show ρ 5 = a0.tmps.getD 5 undef from hF 5 (by decide)).trans h5
      have HW := hidden hW
      clear hF hW
      unfold Rl.Does
      go_simp
      first
        | exact ⟨rfl, HW.out, Below.refl _ _⟩
        | (simp; exact ⟨rfl, HW.out, Below.refl _ _⟩)
    · refine .inl ⟨false, fun v w h => h, fun _ => ?_, fun h => absurd rfl h⟩
      intro ρ w1 hF hW
      have e7 : ρ 7 = .int .i64 (i : Int) := (show ρ 7 = a0.tmps.getD 7 undef from hF 7 (by decide)).trans h7
      have HW := hidden hW
      clear hF hW
      unfold Rl.Does
      go_simp
      first
        | exact ⟨rfl, HW.out, Below.refl _ _⟩
        | (simp; exact ⟨rfl, HW.out, Below.refl _ _⟩)
    · refine .inl ⟨false, fun v w h => h, fun _ => ?_, fun h => absurd rfl h⟩
      intro ρ w1 hF hW
      have e72 : ρ 72 = .slice (some ⟨xb, xo, none⟩) m c7 := hF 72 (by decide)
      have e73 : ρ 73 = .int .i64 (i : Int) := hF 73 (by decide)
      have HW := hidden hW
      clear hF hW
      unfold Rl.Does
      go_simp
      first
        | exact ⟨rfl, HW.out, Below.refl _ _⟩
        | (simp; exact ⟨rfl, HW.out, Below.refl _ _⟩)
    · refine .inl ⟨false, fun v w h => h, fun _ => ?_, fun h => absurd rfl h⟩
      intro ρ w1 hF hW
      have e74 : ρ 74 = .pointer (some ⟨xb, xo + i * 2, none⟩) := hF 74 (by decide)
      have HW := hidden hW
      clear hF hW
      unfold Rl.Does
      go_simp
      first
        | exact ⟨rfl, HW.out, Below.refl _ _⟩
        | (simp; exact ⟨rfl, HW.out, Below.refl _ _⟩)
    · refine .inl ⟨false, fun v w h => h, fun _ => ?_, fun h => absurd rfl h⟩
      intro ρ w1 hF hW
      have e75 : ρ 75 = .pointer (some ⟨xb, xo + i * 2, none⟩) := hF 75 (by decide)
      have HW := hidden hW
      have c0 := HC0.out _ hW
      clear hF hW
      unfold Rl.Does
      go_simp
      first
        | exact ⟨rfl, HW.out, Below.refl _ _⟩
        | (simp; exact ⟨rfl, HW.out, Below.refl _ _⟩)
    · refine .inl ⟨false, fun v w h => h, fun _ => ?_, fun h => absurd rfl h⟩
      intro ρ w1 hF hW
      have e76 : ρ 76 = .int .i64 t := hF 76 (by decide)
      have HW := hidden hW
      clear hF hW
      unfold Rl.Does
      go_simp
      first
        | exact ⟨rfl, HW.out, Below.refl _ _⟩
        | (simp; exact ⟨rfl, HW.out, Below.refl _ _⟩)
    · refine .inl ⟨false, fun v w h => h, fun _ => ?_, fun h => absurd rfl h⟩
      intro ρ w1 hF hW
      have e77 : ρ 77 = .bool false := hF 77 (by decide)
      have HW := hidden hW
      clear hF hW
      unfold Rl.Does
      go_simp
      first
        | exact ⟨rfl, HW.out, Below.refl _ _⟩
        | (simp; exact ⟨rfl, HW.out, Below.refl _ _⟩)
    · exact .inl ⟨false, fun v w h => h, (fun h => by cases h), fun _ _ => rfl⟩
    · exact .inl ⟨false, fun v w h => h, (fun h => by cases h), fun _ _ => rfl⟩
    · exact .inl ⟨false, fun v w h => h, (fun h => by cases h), fun _ _ => rfl⟩
    · exact .inl ⟨false, fun v w h => h, (fun h => by cases h), fun _ _ => rfl⟩
    · exact .inl ⟨false, fun v w h => h, (fun h => by cases h), fun _ _ => rfl⟩
    · exact .inl ⟨false, fun v w h => h, (fun h => by cases h), fun _ _ => rfl⟩
    · exact .inl ⟨false, fun v w h => h, (fun h => by cases h), fun _ _ => rfl⟩
    · exact .inl ⟨false, fun v w h => h, (fun h => by cases h), fun _ _ => rfl⟩
    · exact .inl ⟨false, fun v w h => h, (fun h => by cases h), fun _ _ => rfl⟩
    · exact .inl ⟨false, fun v w h => h, (fun h => by cases h), fun _ _ => rfl⟩
    · exact .inl ⟨false, fun v w h => h, (fun h => by cases h), fun _ _ => rfl⟩
    · exact .inl ⟨false, fun v w h => h, (fun h => by cases h), fun _ _ => rfl⟩
    · exact .inl ⟨false, fun v w h => h, (fun h => by cases h), fun _ _ => rfl⟩
    · exact .inl ⟨false, fun v w h => h, (fun h => by cases h), fun _ _ => rfl⟩
    · exact .inl ⟨false, fun v w h => h, (fun h => by cases h), fun _ _ => rfl⟩
    · refine .inl ⟨false, fun v w h => h, fun _ => ?_, fun h => absurd rfl h⟩
      intro ρ w1 hF hW
      have e78 : ρ 78 = .bool false := hF 78 (by decide)
      have HW := hidden hW
      clear hF hW
      unfold Rl.Does
      go_simp
      first
        | exact ⟨rfl, HW.out, Below.refl _ _⟩
        | (simp; exact ⟨rfl, HW.out, Below.refl _ _⟩)
    · intro ρ w1 hF hW
      have e71 : ρ 71 = .bool false := hF 71 (by decide)
      have e94 : ρ 94 = .bool false := hF 94 (by decide)
      have HW := hidden hW
      clear hF hW
      unfold Rl.Does
      go_simp
      first
        | exact ⟨rfl, HW.out, Below.refl _ _⟩
        | (simp; exact ⟨rfl, HW.out, Below.refl _ _⟩)
  case fin =>
    intro a1 w1 hst hv hW
    have hl : a1.tmps.getD 95 undef = .bool false := hv 46 95 (by kernel_rfl)
    exact hQ a1 w1 hst hl hW
set_option maxHeartbeats 8000000 in
set_option maxRecDepth 100000 in
theorem reg11_some {Q : Exit → Act → World → Prop} {a0 : Act} {wr : World} {D : DfaM} {an : Option Addr} {nx cn : Nat} {vl : Value}  {B xb xo m c7 i n : Nat} {t : Int} (hsz : a0.tmps.size = 138) (h2 : a0.tmps.getD 2 undef = .pointer (some ⟨B, 0, none⟩)) (h5 : a0.tmps.getD 5 undef = .slice (some ⟨xb, xo, none⟩) m c7) (h7 : a0.tmps.getD 7 undef = .int .i64 (i : Int)) (h8 : a0.tmps.getD 8 undef = .int .i64 (n : Int)) (HC0 : Hid (∀ W, Below wr.heap.size wr W → W.cell? ⟨xb, xo + i * 2, none⟩ = some (.int .i64 t))) {x : ByteArray} (HC1 : Hid (∀ W, Below wr.heap.size wr W → W.cell? ⟨xb, xo + i * 2 + 1, none⟩ = some (.string x))) (HX : Hid (∀ W, Below wr.heap.size wr W → DfaAt W B D.cls D.width (.slice an nx cn) vl)) {st : Int} (HRX : Hid (∀ W, Below wr.heap.size wr W → Calls Try.prog 20 #[dfaA D.cls D.width (.slice an nx cn) vl, .string x] W fun e w' => e = .returned (.int .i64 st) ∧ Below W.heap.size W w')) (HLX : Hid (∀ W, Below wr.heap.size wr W → Calls Try.prog 19 #[dfaA D.cls D.width (.slice an nx cn) vl, .int .i64 st] W fun e w' => e = .returned (.int .i64 t) ∧ Below W.heap.size W w')) (hki : (i : Int) < (m : Int)) (hn0 : ((n : Int) == 0) = false) (k1 : decide (t < 0) = false) (k4 : decide (0 ≤ t) = true) (hQ : ∀ a1 w1, Rl.Still (opsOf (allReg 11)) a0 a1 → a1.tmps.getD 95 undef = .bool false → Below wr.heap.size wr w1 → Q .normal a1 w1) : (allReg 11).wp Try.prog Q a0 wr := by
  conv => arg 2; whnf
  refine Rl.wp_region_stepsN (R := fun w1 w2 => Below w1.heap.size w1 w2) (Rl.typ [Rl.Is (.int .i64 (n : Int)), Rl.Is (.bool false), Rl.Is (.bool false), Rl.Is (.slice (some ⟨xb, xo, none⟩) m c7), Rl.Is (.int .i64 (i : Int)), Rl.Is (.pointer (some ⟨xb, xo + i * 2, none⟩)), Rl.Is (.pointer (some ⟨xb, xo + i * 2, none⟩)), Rl.Is (.int .i64 t), Rl.Is (.bool false), Rl.Is (.bool false), Rl.Is (undef), Rl.Is (undef), Rl.Is (undef), Rl.Is (undef), Rl.Is (undef), Rl.Is (undef), Rl.Is (undef), Rl.Is (undef), Rl.Is (undef), Rl.Is (undef), Rl.Is (.bool false), Rl.Is (.bool false), Rl.Is (.bool false), Rl.Is (.slice (some ⟨xb, xo, none⟩) m c7), Rl.Is (.int .i64 (i : Int)), Rl.Is (.pointer (some ⟨xb, xo + i * 2, none⟩)), Rl.Is (.pointer (some ⟨xb, xo + i * 2, none⟩)), Rl.Is (.int .i64 t), Rl.Is (.bool true), Rl.Is (.bool true), Rl.Is (dfaA D.cls D.width (.slice an nx cn) vl), Rl.Is (dfaA D.cls D.width (.slice an nx cn) vl), Rl.Is (.slice (some ⟨xb, xo, none⟩) m c7), Rl.Is (.int .i64 (i : Int)), Rl.Is (.pointer (some ⟨xb, xo + i * 2, none⟩)), Rl.Is (.pointer (some ⟨xb, xo + i * 2 + 1, none⟩)), Rl.Is (.string x), Rl.Is (.int .i64 st), Rl.Is (.int .i64 t), Rl.Is (.slice (some ⟨xb, xo, none⟩) m c7), Rl.Is (.int .i64 (i : Int)), Rl.Is (.pointer (some ⟨xb, xo + i * 2, none⟩)), Rl.Is (.pointer (some ⟨xb, xo + i * 2, none⟩)), Rl.Is (.int .i64 t), Rl.Is (.bool false), Rl.Is (.bool false), Rl.Is (.bool false)]) (fun w1 => Below wr.heap.size wr w1) (fun w1 => Below.refl _ _) (by kernel_rfl) (by rw [hsz]; kernel_rfl) (by kernel_rfl) (by kernel_rfl) ?mono (Below.refl _ _).drew ?step ?fin
  case mono =>
    refine Rl.typ_mono ?_
    simp only [List.forall_mem_cons]
    repeat' (first | exact (fun v w w' h _ => h) | (intro p hp; cases hp; done) | refine And.intro ?_ ?_)
  case step =>
    refine ⟨?_, ?_, ?_, ?_, ?_, ?_, ?_, ?_, ?_, ?_, ?_, ?_, ?_, ?_, ?_, ?_, ?_, ?_, ?_, ?_, ?_, ?_, ?_, ?_, ?_, ?_, ?_, ?_, ?_, ?_, ?_, ?_, ?_, ?_, ?_, ?_, ?_, ?_, ?_, ?_, ?_, ?_, ?_, ?_, ?_, ?_, ?_, trivial⟩
    · intro ρ w1 hF hW
      have e8 : ρ 8 = .int .i64 (n : Int) := (show ρ 8 = a0.tmps.getD 8 undef from hF 8 (by decide)).trans h8
      have HW := hidden hW
      clear hF hW
      unfold Rl.Does
      go_simp
      first
        | exact ⟨rfl, HW.out, Below.refl _ _⟩
        | (simp; exact ⟨rfl, HW.out, Below.refl _ _⟩)
    · intro ρ w1 hF hW
      have e49 : ρ 49 = .int .i64 (n : Int) := hF 49 (by decide)
      have HW := hidden hW
      clear hF hW
      unfold Rl.Does
      go_simp
      first
        | exact ⟨rfl, HW.out, Below.refl _ _⟩
        | (simp; exact ⟨rfl, HW.out, Below.refl _ _⟩)
    · intro ρ w1 hF hW
      have e50 : ρ 50 = .bool false := hF 50 (by decide)
      have HW := hidden hW
      clear hF hW
      unfold Rl.Does
      go_simp
      first
        | exact ⟨rfl, HW.out, Below.refl _ _⟩
        | (simp; exact ⟨rfl, HW.out, Below.refl _ _⟩)
    · refine .inl ⟨false, fun v w h => h, fun _ => ?_, fun h => absurd rfl h⟩
      intro ρ w1 hF hW
      have e5 : ρ 5 = .slice (some ⟨xb, xo, none⟩) m c7 := (show ρ 5 = a0.tmps.getD 5 undef from hF 5 (by decide)).trans h5
      have HW := hidden hW
      clear hF hW
      unfold Rl.Does
      go_simp
      first
        | exact ⟨rfl, HW.out, Below.refl _ _⟩
        | (simp; exact ⟨rfl, HW.out, Below.refl _ _⟩)
    · refine .inl ⟨false, fun v w h => h, fun _ => ?_, fun h => absurd rfl h⟩
      intro ρ w1 hF hW
      have e7 : ρ 7 = .int .i64 (i : Int) := (show ρ 7 = a0.tmps.getD 7 undef from hF 7 (by decide)).trans h7
      have HW := hidden hW
      clear hF hW
      unfold Rl.Does
      go_simp
      first
        | exact ⟨rfl, HW.out, Below.refl _ _⟩
        | (simp; exact ⟨rfl, HW.out, Below.refl _ _⟩)
    · refine .inl ⟨false, fun v w h => h, fun _ => ?_, fun h => absurd rfl h⟩
      intro ρ w1 hF hW
      have e52 : ρ 52 = .slice (some ⟨xb, xo, none⟩) m c7 := hF 52 (by decide)
      have e53 : ρ 53 = .int .i64 (i : Int) := hF 53 (by decide)
      have HW := hidden hW
      clear hF hW
      unfold Rl.Does
      go_simp
      first
        | exact ⟨rfl, HW.out, Below.refl _ _⟩
        | (simp; exact ⟨rfl, HW.out, Below.refl _ _⟩)
    · refine .inl ⟨false, fun v w h => h, fun _ => ?_, fun h => absurd rfl h⟩
      intro ρ w1 hF hW
      have e54 : ρ 54 = .pointer (some ⟨xb, xo + i * 2, none⟩) := hF 54 (by decide)
      have HW := hidden hW
      clear hF hW
      unfold Rl.Does
      go_simp
      first
        | exact ⟨rfl, HW.out, Below.refl _ _⟩
        | (simp; exact ⟨rfl, HW.out, Below.refl _ _⟩)
    · refine .inl ⟨false, fun v w h => h, fun _ => ?_, fun h => absurd rfl h⟩
      intro ρ w1 hF hW
      have e55 : ρ 55 = .pointer (some ⟨xb, xo + i * 2, none⟩) := hF 55 (by decide)
      have HW := hidden hW
      have c0 := HC0.out _ hW
      clear hF hW
      unfold Rl.Does
      go_simp
      first
        | exact ⟨rfl, HW.out, Below.refl _ _⟩
        | (simp; exact ⟨rfl, HW.out, Below.refl _ _⟩)
    · refine .inl ⟨false, fun v w h => h, fun _ => ?_, fun h => absurd rfl h⟩
      intro ρ w1 hF hW
      have e56 : ρ 56 = .int .i64 t := hF 56 (by decide)
      have HW := hidden hW
      clear hF hW
      unfold Rl.Does
      go_simp
      first
        | exact ⟨rfl, HW.out, Below.refl _ _⟩
        | (simp; exact ⟨rfl, HW.out, Below.refl _ _⟩)
    · refine .inl ⟨false, fun v w h => h, fun _ => ?_, fun h => absurd rfl h⟩
      intro ρ w1 hF hW
      have e57 : ρ 57 = .bool false := hF 57 (by decide)
      have HW := hidden hW
      clear hF hW
      unfold Rl.Does
      go_simp
      first
        | exact ⟨rfl, HW.out, Below.refl _ _⟩
        | (simp; exact ⟨rfl, HW.out, Below.refl _ _⟩)
    · exact .inl ⟨false, fun v w h => h, (fun h => by cases h), fun _ _ => rfl⟩
    · exact .inl ⟨false, fun v w h => h, (fun h => by cases h), fun _ _ => rfl⟩
    · exact .inl ⟨false, fun v w h => h, (fun h => by cases h), fun _ _ => rfl⟩
    · exact .inl ⟨false, fun v w h => h, (fun h => by cases h), fun _ _ => rfl⟩
    · exact .inl ⟨false, fun v w h => h, (fun h => by cases h), fun _ _ => rfl⟩
    · exact .inl ⟨false, fun v w h => h, (fun h => by cases h), fun _ _ => rfl⟩
    · exact .inl ⟨false, fun v w h => h, (fun h => by cases h), fun _ _ => rfl⟩
    · exact .inr ⟨fun v w h => h, fun _ => rfl⟩
    · exact .inr ⟨fun v w h => h, fun _ => rfl⟩
    · exact .inl ⟨false, fun v w h => h, (fun h => by cases h), fun _ _ => rfl⟩
    · refine .inl ⟨false, fun v w h => h, fun _ => ?_, fun h => absurd rfl h⟩
      intro ρ w1 hF hW
      have e58 : ρ 58 = .bool false := hF 58 (by decide)
      have HW := hidden hW
      clear hF hW
      unfold Rl.Does
      go_simp
      first
        | exact ⟨rfl, HW.out, Below.refl _ _⟩
        | (simp; exact ⟨rfl, HW.out, Below.refl _ _⟩)
    · intro ρ w1 hF hW
      have e51 : ρ 51 = .bool false := hF 51 (by decide)
      have e69 : ρ 69 = .bool false := hF 69 (by decide)
      have HW := hidden hW
      clear hF hW
      unfold Rl.Does
      go_simp
      first
        | exact ⟨rfl, HW.out, Below.refl _ _⟩
        | (simp; exact ⟨rfl, HW.out, Below.refl _ _⟩)
    · intro ρ w1 hF hW
      have e70 : ρ 70 = .bool false := hF 70 (by decide)
      have HW := hidden hW
      clear hF hW
      unfold Rl.Does
      go_simp
      first
        | exact ⟨rfl, HW.out, Below.refl _ _⟩
        | (simp; exact ⟨rfl, HW.out, Below.refl _ _⟩)
    · refine .inl ⟨false, fun v w h => h, fun _ => ?_, fun h => absurd rfl h⟩
      intro ρ w1 hF hW
      have e5 : ρ 5 = .slice (some ⟨xb, xo, none⟩) m c7 := (show ρ 5 = a0.tmps.getD 5 undef from hF 5 (by decide)).trans h5
      have HW := hidden hW
      clear hF hW
      unfold Rl.Does
      go_simp
      first
        | exact ⟨rfl, HW.out, Below.refl _ _⟩
        | (simp; exact ⟨rfl, HW.out, Below.refl _ _⟩)
    · refine .inl ⟨false, fun v w h => h, fun _ => ?_, fun h => absurd rfl h⟩
      intro ρ w1 hF hW
      have e7 : ρ 7 = .int .i64 (i : Int) := (show ρ 7 = a0.tmps.getD 7 undef from hF 7 (by decide)).trans h7
      have HW := hidden hW
      clear hF hW
      unfold Rl.Does
      go_simp
      first
        | exact ⟨rfl, HW.out, Below.refl _ _⟩
        | (simp; exact ⟨rfl, HW.out, Below.refl _ _⟩)
    · refine .inl ⟨false, fun v w h => h, fun _ => ?_, fun h => absurd rfl h⟩
      intro ρ w1 hF hW
      have e72 : ρ 72 = .slice (some ⟨xb, xo, none⟩) m c7 := hF 72 (by decide)
      have e73 : ρ 73 = .int .i64 (i : Int) := hF 73 (by decide)
      have HW := hidden hW
      clear hF hW
      unfold Rl.Does
      go_simp
      first
        | exact ⟨rfl, HW.out, Below.refl _ _⟩
        | (simp; exact ⟨rfl, HW.out, Below.refl _ _⟩)
    · refine .inl ⟨false, fun v w h => h, fun _ => ?_, fun h => absurd rfl h⟩
      intro ρ w1 hF hW
      have e74 : ρ 74 = .pointer (some ⟨xb, xo + i * 2, none⟩) := hF 74 (by decide)
      have HW := hidden hW
      clear hF hW
      unfold Rl.Does
      go_simp
      first
        | exact ⟨rfl, HW.out, Below.refl _ _⟩
        | (simp; exact ⟨rfl, HW.out, Below.refl _ _⟩)
    · refine .inl ⟨false, fun v w h => h, fun _ => ?_, fun h => absurd rfl h⟩
      intro ρ w1 hF hW
      have e75 : ρ 75 = .pointer (some ⟨xb, xo + i * 2, none⟩) := hF 75 (by decide)
      have HW := hidden hW
      have c0 := HC0.out _ hW
      clear hF hW
      unfold Rl.Does
      go_simp
      first
        | exact ⟨rfl, HW.out, Below.refl _ _⟩
        | (simp; exact ⟨rfl, HW.out, Below.refl _ _⟩)
    · refine .inl ⟨false, fun v w h => h, fun _ => ?_, fun h => absurd rfl h⟩
      intro ρ w1 hF hW
      have e76 : ρ 76 = .int .i64 t := hF 76 (by decide)
      have HW := hidden hW
      clear hF hW
      unfold Rl.Does
      go_simp
      first
        | exact ⟨rfl, HW.out, Below.refl _ _⟩
        | (simp; exact ⟨rfl, HW.out, Below.refl _ _⟩)
    · refine .inl ⟨false, fun v w h => h, fun _ => ?_, fun h => absurd rfl h⟩
      intro ρ w1 hF hW
      have e77 : ρ 77 = .bool true := hF 77 (by decide)
      have HW := hidden hW
      clear hF hW
      unfold Rl.Does
      go_simp
      first
        | exact ⟨rfl, HW.out, Below.refl _ _⟩
        | (simp; exact ⟨rfl, HW.out, Below.refl _ _⟩)
    · refine .inl ⟨true, fun v w h => h, fun _ => ?_, fun h => absurd rfl h⟩
      intro ρ w1 hF hW
      have e1 : ρ 2 = .pointer (some ⟨B, 0, none⟩) := (show ρ 2 = a0.tmps.getD 2 undef from hF 2 (by decide)).trans h2
      have HW := hidden hW
      exact does_load_dfa16 rfl e1 (HX.out _ HW.out) ⟨rfl, HW.out, Below.refl _ _⟩
    · refine .inl ⟨true, fun v w h => h, fun _ => ?_, fun h => absurd rfl h⟩
      intro ρ w1 hF hW
      have e1 : ρ 2 = .pointer (some ⟨B, 0, none⟩) := (show ρ 2 = a0.tmps.getD 2 undef from hF 2 (by decide)).trans h2
      have HW := hidden hW
      exact does_load_dfa16 rfl e1 (HX.out _ HW.out) ⟨rfl, HW.out, Below.refl _ _⟩
    · refine .inl ⟨true, fun v w h => h, fun _ => ?_, fun h => absurd rfl h⟩
      intro ρ w1 hF hW
      have e5 : ρ 5 = .slice (some ⟨xb, xo, none⟩) m c7 := (show ρ 5 = a0.tmps.getD 5 undef from hF 5 (by decide)).trans h5
      have HW := hidden hW
      clear hF hW
      unfold Rl.Does
      go_simp
      first
        | exact ⟨rfl, HW.out, Below.refl _ _⟩
        | (simp; exact ⟨rfl, HW.out, Below.refl _ _⟩)
    · refine .inl ⟨true, fun v w h => h, fun _ => ?_, fun h => absurd rfl h⟩
      intro ρ w1 hF hW
      have e7 : ρ 7 = .int .i64 (i : Int) := (show ρ 7 = a0.tmps.getD 7 undef from hF 7 (by decide)).trans h7
      have HW := hidden hW
      clear hF hW
      unfold Rl.Does
      go_simp
      first
        | exact ⟨rfl, HW.out, Below.refl _ _⟩
        | (simp; exact ⟨rfl, HW.out, Below.refl _ _⟩)
    · refine .inl ⟨true, fun v w h => h, fun _ => ?_, fun h => absurd rfl h⟩
      intro ρ w1 hF hW
      have e81 : ρ 81 = .slice (some ⟨xb, xo, none⟩) m c7 := hF 81 (by decide)
      have e82 : ρ 82 = .int .i64 (i : Int) := hF 82 (by decide)
      have HW := hidden hW
      clear hF hW
      unfold Rl.Does
      go_simp
      first
        | exact ⟨rfl, HW.out, Below.refl _ _⟩
        | (simp; exact ⟨rfl, HW.out, Below.refl _ _⟩)
    · refine .inl ⟨true, fun v w h => h, fun _ => ?_, fun h => absurd rfl h⟩
      intro ρ w1 hF hW
      have e83 : ρ 83 = .pointer (some ⟨xb, xo + i * 2, none⟩) := hF 83 (by decide)
      have HW := hidden hW
      clear hF hW
      unfold Rl.Does
      go_simp
      first
        | exact ⟨rfl, HW.out, Below.refl _ _⟩
        | (simp; exact ⟨rfl, HW.out, Below.refl _ _⟩)
    · refine .inl ⟨true, fun v w h => h, fun _ => ?_, fun h => absurd rfl h⟩
      intro ρ w1 hF hW
      have e84 : ρ 84 = .pointer (some ⟨xb, xo + i * 2 + 1, none⟩) := hF 84 (by decide)
      have HW := hidden hW
      have c0 := HC1.out _ hW
      clear hF hW
      unfold Rl.Does
      go_simp
      first
        | exact ⟨rfl, HW.out, Below.refl _ _⟩
        | (simp; exact ⟨rfl, HW.out, Below.refl _ _⟩)
    · refine .inl ⟨true, fun v w h => h, fun _ => ?_, fun h => absurd rfl h⟩
      intro ρ w1 hF hW
      have e80 : ρ 80 = dfaA D.cls D.width (.slice an nx cn) vl := hF 80 (by decide)
      have e85 : ρ 85 = .string x := hF 85 (by decide)
      have HW := hidden hW
      clear hF hW
      unfold Rl.Does
      go_simp
      refine (HRX.out _ HW.out).mono ?_
      rintro e w3 ⟨rfl, hb⟩
      exact ⟨_, rfl, rfl, below_then HW.out HW.out.size hb, hb⟩
    · refine .inl ⟨true, fun v w h => h, fun _ => ?_, fun h => absurd rfl h⟩
      intro ρ w1 hF hW
      have e79 : ρ 79 = dfaA D.cls D.width (.slice an nx cn) vl := hF 79 (by decide)
      have e86 : ρ 86 = .int .i64 st := hF 86 (by decide)
      have HW := hidden hW
      clear hF hW
      unfold Rl.Does
      go_simp
      refine (HLX.out _ HW.out).mono ?_
      rintro e w3 ⟨rfl, hb⟩
      exact ⟨_, rfl, rfl, below_then HW.out HW.out.size hb, hb⟩
    · refine .inl ⟨true, fun v w h => h, fun _ => ?_, fun h => absurd rfl h⟩
      intro ρ w1 hF hW
      have e5 : ρ 5 = .slice (some ⟨xb, xo, none⟩) m c7 := (show ρ 5 = a0.tmps.getD 5 undef from hF 5 (by decide)).trans h5
      have HW := hidden hW
      clear hF hW
      unfold Rl.Does
      go_simp
      first
        | exact ⟨rfl, HW.out, Below.refl _ _⟩
        | (simp; exact ⟨rfl, HW.out, Below.refl _ _⟩)
    · refine .inl ⟨true, fun v w h => h, fun _ => ?_, fun h => absurd rfl h⟩
      intro ρ w1 hF hW
      have e7 : ρ 7 = .int .i64 (i : Int) := (show ρ 7 = a0.tmps.getD 7 undef from hF 7 (by decide)).trans h7
      have HW := hidden hW
      clear hF hW
      unfold Rl.Does
      go_simp
      first
        | exact ⟨rfl, HW.out, Below.refl _ _⟩
        | (simp; exact ⟨rfl, HW.out, Below.refl _ _⟩)
    · refine .inl ⟨true, fun v w h => h, fun _ => ?_, fun h => absurd rfl h⟩
      intro ρ w1 hF hW
      have e88 : ρ 88 = .slice (some ⟨xb, xo, none⟩) m c7 := hF 88 (by decide)
      have e89 : ρ 89 = .int .i64 (i : Int) := hF 89 (by decide)
      have HW := hidden hW
      clear hF hW
      unfold Rl.Does
      go_simp
      first
        | exact ⟨rfl, HW.out, Below.refl _ _⟩
        | (simp; exact ⟨rfl, HW.out, Below.refl _ _⟩)
    · refine .inl ⟨true, fun v w h => h, fun _ => ?_, fun h => absurd rfl h⟩
      intro ρ w1 hF hW
      have e90 : ρ 90 = .pointer (some ⟨xb, xo + i * 2, none⟩) := hF 90 (by decide)
      have HW := hidden hW
      clear hF hW
      unfold Rl.Does
      go_simp
      first
        | exact ⟨rfl, HW.out, Below.refl _ _⟩
        | (simp; exact ⟨rfl, HW.out, Below.refl _ _⟩)
    · refine .inl ⟨true, fun v w h => h, fun _ => ?_, fun h => absurd rfl h⟩
      intro ρ w1 hF hW
      have e91 : ρ 91 = .pointer (some ⟨xb, xo + i * 2, none⟩) := hF 91 (by decide)
      have HW := hidden hW
      have c0 := HC0.out _ hW
      clear hF hW
      unfold Rl.Does
      go_simp
      first
        | exact ⟨rfl, HW.out, Below.refl _ _⟩
        | (simp; exact ⟨rfl, HW.out, Below.refl _ _⟩)
    · refine .inl ⟨true, fun v w h => h, fun _ => ?_, fun h => absurd rfl h⟩
      intro ρ w1 hF hW
      have e87 : ρ 87 = .int .i64 t := hF 87 (by decide)
      have e92 : ρ 92 = .int .i64 t := hF 92 (by decide)
      have HW := hidden hW
      clear hF hW
      unfold Rl.Does
      go_simp
      first
        | exact ⟨rfl, HW.out, Below.refl _ _⟩
        | (simp; exact ⟨rfl, HW.out, Below.refl _ _⟩)
    · refine .inl ⟨false, fun v w h => h, fun _ => ?_, fun h => absurd rfl h⟩
      intro ρ w1 hF hW
      have e78 : ρ 78 = .bool true := hF 78 (by decide)
      have e93 : ρ 93 = .bool false := hF 93 (by decide)
      have HW := hidden hW
      clear hF hW
      unfold Rl.Does
      go_simp
      first
        | exact ⟨rfl, HW.out, Below.refl _ _⟩
        | (simp; exact ⟨rfl, HW.out, Below.refl _ _⟩)
    · intro ρ w1 hF hW
      have e71 : ρ 71 = .bool false := hF 71 (by decide)
      have e94 : ρ 94 = .bool false := hF 94 (by decide)
      have HW := hidden hW
      clear hF hW
      unfold Rl.Does
      go_simp
      first
        | exact ⟨rfl, HW.out, Below.refl _ _⟩
        | (simp; exact ⟨rfl, HW.out, Below.refl _ _⟩)
  case fin =>
    intro a1 w1 hst hv hW
    have hl : a1.tmps.getD 95 undef = .bool false := hv 46 95 (by kernel_rfl)
    exact hQ a1 w1 hst hl hW
set_option maxHeartbeats 8000000 in
set_option maxRecDepth 100000 in
theorem reg16_far {Q : Exit → Act → World → Prop} {a0 : Act} {wr : World} {D : DfaM} {an : Option Addr} {nx cn : Nat} {vl : Value} {s : ByteArray} {B n : Nat}  (hsz : a0.tmps.size = 138) (h2 : a0.tmps.getD 2 undef = .pointer (some ⟨B, 0, none⟩)) (h8 : a0.tmps.getD 8 undef = .int .i64 (n : Int)) (h1 : a0.tmps.getD 1 undef = .string s) {A E G : Nat} (h6 : a0.tmps.getD 6 undef = .int .i64 (A : Int)) (h9 : a0.tmps.getD 9 undef = .int .i64 (E : Int)) (hw1 : IntKind.i64.wrap ((A : Int) + (n : Int)) = (G : Int)) (d2' : decide (G < E) = true) {z : ByteArray} {sz lz : Int} (hsl : ∀ W : World, (Instr.slice 9 (.string s) (some (.int .i64 (A : Int))) (some (.int .i64 (E : Int))) none).run Try.prog W = .ok (.string z) W) (HX : Hid (∀ W, Below wr.heap.size wr W → DfaAt W B D.cls D.width (.slice an nx cn) vl)) (HRZ : Hid (∀ W, Below wr.heap.size wr W → Calls Try.prog 20 #[dfaA D.cls D.width (.slice an nx cn) vl, .string z] W fun e w' => e = .returned (.int .i64 sz) ∧ Below W.heap.size W w')) (HLZ : Hid (∀ W, Below wr.heap.size wr W → Calls Try.prog 19 #[dfaA D.cls D.width (.slice an nx cn) vl, .int .i64 sz] W fun e w' => e = .returned (.int .i64 lz) ∧ Below W.heap.size W w')) (k9 : decide (0 ≤ lz) = false) (hQ : ∀ a1 w1, Rl.Still (opsOf (allReg 16)) a0 a1 → a1.tmps.getD 127 undef = .bool false → Below wr.heap.size wr w1 → Q .normal a1 w1) : (allReg 16).wp Try.prog Q a0 wr := by
  conv => arg 2; whnf
  refine Rl.wp_region_stepsN (R := fun w1 w2 => Below w1.heap.size w1 w2) (Rl.typ [Rl.Is (.int .i64 (E : Int)), Rl.Is (.int .i64 (A : Int)), Rl.Is (.int .i64 (n : Int)), Rl.Is (.int .i64 (G : Int)), Rl.Is (.bool true), Rl.Is (.bool true), Rl.Is (undef), Rl.Is (undef), Rl.Is (undef), Rl.Is (undef), Rl.Is (undef), Rl.Is (undef), Rl.Is (.bool true), Rl.Is (.bool true), Rl.Is (dfaA D.cls D.width (.slice an nx cn) vl), Rl.Is (dfaA D.cls D.width (.slice an nx cn) vl), Rl.Is (.string s), Rl.Is (.int .i64 (A : Int)), Rl.Is (.int .i64 (E : Int)), Rl.Is (.string z), Rl.Is (.int .i64 sz), Rl.Is (.int .i64 lz), Rl.Is (.bool false), Rl.Is (.bool false)]) (fun w1 => Below wr.heap.size wr w1) (fun w1 => Below.refl _ _) (by kernel_rfl) (by rw [hsz]; kernel_rfl) (by kernel_rfl) (by kernel_rfl) ?mono (Below.refl _ _).drew ?step ?fin
  case mono =>
    refine Rl.typ_mono ?_
    simp only [List.forall_mem_cons]
    repeat' (first | exact (fun v w w' h _ => h) | (intro p hp; cases hp; done) | refine And.intro ?_ ?_)
  case step =>
    refine ⟨?_, ?_, ?_, ?_, ?_, ?_, ?_, ?_, ?_, ?_, ?_, ?_, ?_, ?_, ?_, ?_, ?_, ?_, ?_, ?_, ?_, ?_, ?_, ?_, trivial⟩
    · intro ρ w1 hF hW
      have e9 : ρ 9 = .int .i64 (E : Int) := (show ρ 9 = a0.tmps.getD 9 undef from hF 9 (by decide)).trans h9
      have HW := hidden hW
      clear hF hW
      unfold Rl.Does
      go_simp
      first
        | exact ⟨rfl, HW.out, Below.refl _ _⟩
        | (simp; exact ⟨rfl, HW.out, Below.refl _ _⟩)
    · intro ρ w1 hF hW
      have e6 : ρ 6 = .int .i64 (A : Int) := (show ρ 6 = a0.tmps.getD 6 undef from hF 6 (by decide)).trans h6
      have HW := hidden hW
      clear hF hW
      unfold Rl.Does
      go_simp
      first
        | exact ⟨rfl, HW.out, Below.refl _ _⟩
        | (simp; exact ⟨rfl, HW.out, Below.refl _ _⟩)
    · intro ρ w1 hF hW
      have e8 : ρ 8 = .int .i64 (n : Int) := (show ρ 8 = a0.tmps.getD 8 undef from hF 8 (by decide)).trans h8
      have HW := hidden hW
      clear hF hW
      unfold Rl.Does
      go_simp
      first
        | exact ⟨rfl, HW.out, Below.refl _ _⟩
        | (simp; exact ⟨rfl, HW.out, Below.refl _ _⟩)
    · intro ρ w1 hF hW
      have e105 : ρ 105 = .int .i64 (A : Int) := hF 105 (by decide)
      have e106 : ρ 106 = .int .i64 (n : Int) := hF 106 (by decide)
      have HW := hidden hW
      clear hF hW
      unfold Rl.Does
      go_simp
      first
        | exact ⟨rfl, HW.out, Below.refl _ _⟩
        | (simp; exact ⟨rfl, HW.out, Below.refl _ _⟩)
    · intro ρ w1 hF hW
      have e104 : ρ 104 = .int .i64 (E : Int) := hF 104 (by decide)
      have e107 : ρ 107 = .int .i64 (G : Int) := hF 107 (by decide)
      have HW := hidden hW
      clear hF hW
      unfold Rl.Does
      go_simp
      first
        | exact ⟨rfl, HW.out, Below.refl _ _⟩
        | (simp; exact ⟨rfl, HW.out, Below.refl _ _⟩)
    · intro ρ w1 hF hW
      have e108 : ρ 108 = .bool true := hF 108 (by decide)
      have HW := hidden hW
      clear hF hW
      unfold Rl.Does
      go_simp
      first
        | exact ⟨rfl, HW.out, Below.refl _ _⟩
        | (simp; exact ⟨rfl, HW.out, Below.refl _ _⟩)
    · exact .inl ⟨true, fun v w h => h, (fun h => by cases h), fun _ _ => rfl⟩
    · exact .inl ⟨true, fun v w h => h, (fun h => by cases h), fun _ _ => rfl⟩
    · exact .inl ⟨true, fun v w h => h, (fun h => by cases h), fun _ _ => rfl⟩
    · exact .inl ⟨true, fun v w h => h, (fun h => by cases h), fun _ _ => rfl⟩
    · exact .inl ⟨true, fun v w h => h, (fun h => by cases h), fun _ _ => rfl⟩
    · exact .inl ⟨true, fun v w h => h, (fun h => by cases h), fun _ _ => rfl⟩
    · intro ρ w1 hF hW
      have e109 : ρ 109 = .bool true := hF 109 (by decide)
      have HW := hidden hW
      clear hF hW
      unfold Rl.Does
      go_simp
      first
        | exact ⟨rfl, HW.out, Below.refl _ _⟩
        | (simp; exact ⟨rfl, HW.out, Below.refl _ _⟩)
    · intro ρ w1 hF hW
      have e116 : ρ 116 = .bool true := hF 116 (by decide)
      have HW := hidden hW
      clear hF hW
      unfold Rl.Does
      go_simp
      first
        | exact ⟨rfl, HW.out, Below.refl _ _⟩
        | (simp; exact ⟨rfl, HW.out, Below.refl _ _⟩)
    · refine .inl ⟨true, fun v w h => h, fun _ => ?_, fun h => absurd rfl h⟩
      intro ρ w1 hF hW
      have e1 : ρ 2 = .pointer (some ⟨B, 0, none⟩) := (show ρ 2 = a0.tmps.getD 2 undef from hF 2 (by decide)).trans h2
      have HW := hidden hW
      exact does_load_dfa16 rfl e1 (HX.out _ HW.out) ⟨rfl, HW.out, Below.refl _ _⟩
    · refine .inl ⟨true, fun v w h => h, fun _ => ?_, fun h => absurd rfl h⟩
      intro ρ w1 hF hW
      have e1 : ρ 2 = .pointer (some ⟨B, 0, none⟩) := (show ρ 2 = a0.tmps.getD 2 undef from hF 2 (by decide)).trans h2
      have HW := hidden hW
      exact does_load_dfa16 rfl e1 (HX.out _ HW.out) ⟨rfl, HW.out, Below.refl _ _⟩
    · refine .inl ⟨true, fun v w h => h, fun _ => ?_, fun h => absurd rfl h⟩
      intro ρ w1 hF hW
      have e1 : ρ 1 = .string s := (show ρ 1 = a0.tmps.getD 1 undef from hF 1 (by decide)).trans h1
      have HW := hidden hW
      clear hF hW
      unfold Rl.Does
      go_simp
      first
        | exact ⟨rfl, HW.out, Below.refl _ _⟩
        | (simp; exact ⟨rfl, HW.out, Below.refl _ _⟩)
    · refine .inl ⟨true, fun v w h => h, fun _ => ?_, fun h => absurd rfl h⟩
      intro ρ w1 hF hW
      have e6 : ρ 6 = .int .i64 (A : Int) := (show ρ 6 = a0.tmps.getD 6 undef from hF 6 (by decide)).trans h6
      have HW := hidden hW
      clear hF hW
      unfold Rl.Does
      go_simp
      first
        | exact ⟨rfl, HW.out, Below.refl _ _⟩
        | (simp; exact ⟨rfl, HW.out, Below.refl _ _⟩)
    · refine .inl ⟨true, fun v w h => h, fun _ => ?_, fun h => absurd rfl h⟩
      intro ρ w1 hF hW
      have e9 : ρ 9 = .int .i64 (E : Int) := (show ρ 9 = a0.tmps.getD 9 undef from hF 9 (by decide)).trans h9
      have HW := hidden hW
      clear hF hW
      unfold Rl.Does
      go_simp
      first
        | exact ⟨rfl, HW.out, Below.refl _ _⟩
        | (simp; exact ⟨rfl, HW.out, Below.refl _ _⟩)
    · refine .inl ⟨true, fun v w h => h, fun _ => ?_, fun h => absurd rfl h⟩
      intro ρ w1 hF hW
      have e120 : ρ 120 = .string s := hF 120 (by decide)
      have e121 : ρ 121 = .int .i64 (A : Int) := hF 121 (by decide)
      have e122 : ρ 122 = .int .i64 (E : Int) := hF 122 (by decide)
      have HW := hidden hW
      clear hF hW
      unfold Rl.Does
      go_simp
      first
        | exact ⟨rfl, HW.out, Below.refl _ _⟩
        | (simp; exact ⟨rfl, HW.out, Below.refl _ _⟩)
    · refine .inl ⟨true, fun v w h => h, fun _ => ?_, fun h => absurd rfl h⟩
      intro ρ w1 hF hW
      have e119 : ρ 119 = dfaA D.cls D.width (.slice an nx cn) vl := hF 119 (by decide)
      have e123 : ρ 123 = .string z := hF 123 (by decide)
      have HW := hidden hW
      clear hF hW
      unfold Rl.Does
      go_simp
      refine (HRZ.out _ HW.out).mono ?_
      rintro e w3 ⟨rfl, hb⟩
      exact ⟨_, rfl, rfl, below_then HW.out HW.out.size hb, hb⟩
    · refine .inl ⟨true, fun v w h => h, fun _ => ?_, fun h => absurd rfl h⟩
      intro ρ w1 hF hW
      have e118 : ρ 118 = dfaA D.cls D.width (.slice an nx cn) vl := hF 118 (by decide)
      have e124 : ρ 124 = .int .i64 sz := hF 124 (by decide)
      have HW := hidden hW
      clear hF hW
      unfold Rl.Does
      go_simp
      refine (HLZ.out _ HW.out).mono ?_
      rintro e w3 ⟨rfl, hb⟩
      exact ⟨_, rfl, rfl, below_then HW.out HW.out.size hb, hb⟩
    · refine .inl ⟨true, fun v w h => h, fun _ => ?_, fun h => absurd rfl h⟩
      intro ρ w1 hF hW
      have e125 : ρ 125 = .int .i64 lz := hF 125 (by decide)
      have HW := hidden hW
      clear hF hW
      unfold Rl.Does
      go_simp
      first
        | exact ⟨rfl, HW.out, Below.refl _ _⟩
        | (simp; exact ⟨rfl, HW.out, Below.refl _ _⟩)
    · intro ρ w1 hF hW
      have e117 : ρ 117 = .bool true := hF 117 (by decide)
      have e126 : ρ 126 = .bool false := hF 126 (by decide)
      have HW := hidden hW
      clear hF hW
      unfold Rl.Does
      go_simp
      first
        | exact ⟨rfl, HW.out, Below.refl _ _⟩
        | (simp; exact ⟨rfl, HW.out, Below.refl _ _⟩)
  case fin =>
    intro a1 w1 hst hv hW
    have hl : a1.tmps.getD 127 undef = .bool false := hv 23 127 (by kernel_rfl)
    exact hQ a1 w1 hst hl hW
set_option maxHeartbeats 8000000 in
set_option maxRecDepth 100000 in
theorem reg16_none {Q : Exit → Act → World → Prop} {a0 : Act} {wr : World} {D : DfaM} {an : Option Addr} {nx cn : Nat} {vl : Value} {s : ByteArray} {B xb xo m c7 i n : Nat} {t : Int} (hsz : a0.tmps.size = 138) (h2 : a0.tmps.getD 2 undef = .pointer (some ⟨B, 0, none⟩)) (h5 : a0.tmps.getD 5 undef = .slice (some ⟨xb, xo, none⟩) m c7) (h7 : a0.tmps.getD 7 undef = .int .i64 (i : Int)) (h8 : a0.tmps.getD 8 undef = .int .i64 (n : Int)) (h1 : a0.tmps.getD 1 undef = .string s) {A E G : Nat} (h6 : a0.tmps.getD 6 undef = .int .i64 (A : Int)) (h9 : a0.tmps.getD 9 undef = .int .i64 (E : Int)) (hw1 : IntKind.i64.wrap ((A : Int) + (n : Int)) = (G : Int)) (d2' : decide (G < E) = false) (HC0 : Hid (∀ W, Below wr.heap.size wr W → W.cell? ⟨xb, xo + i * 2, none⟩ = some (.int .i64 t))) (hki : (i : Int) < (m : Int)) (k1 : decide (t < 0) = true) {z : ByteArray} {sz lz : Int} (hsl : ∀ W : World, (Instr.slice 9 (.string s) (some (.int .i64 (A : Int))) (some (.int .i64 (E : Int))) none).run Try.prog W = .ok (.string z) W) (HX : Hid (∀ W, Below wr.heap.size wr W → DfaAt W B D.cls D.width (.slice an nx cn) vl)) (HRZ : Hid (∀ W, Below wr.heap.size wr W → Calls Try.prog 20 #[dfaA D.cls D.width (.slice an nx cn) vl, .string z] W fun e w' => e = .returned (.int .i64 sz) ∧ Below W.heap.size W w')) (HLZ : Hid (∀ W, Below wr.heap.size wr W → Calls Try.prog 19 #[dfaA D.cls D.width (.slice an nx cn) vl, .int .i64 sz] W fun e w' => e = .returned (.int .i64 lz) ∧ Below W.heap.size W w')) (k9 : decide (0 ≤ lz) = false) (hQ : ∀ a1 w1, Rl.Still (opsOf (allReg 16)) a0 a1 → a1.tmps.getD 127 undef = .bool false → Below wr.heap.size wr w1 → Q .normal a1 w1) : (allReg 16).wp Try.prog Q a0 wr := by
  conv => arg 2; whnf
  refine Rl.wp_region_stepsN (R := fun w1 w2 => Below w1.heap.size w1 w2) (Rl.typ [Rl.Is (.int .i64 (E : Int)), Rl.Is (.int .i64 (A : Int)), Rl.Is (.int .i64 (n : Int)), Rl.Is (.int .i64 (G : Int)), Rl.Is (.bool false), Rl.Is (.bool false), Rl.Is (.slice (some ⟨xb, xo, none⟩) m c7), Rl.Is (.int .i64 (i : Int)), Rl.Is (.pointer (some ⟨xb, xo + i * 2, none⟩)), Rl.Is (.pointer (some ⟨xb, xo + i * 2, none⟩)), Rl.Is (.int .i64 t), Rl.Is (.bool true), Rl.Is (.bool true), Rl.Is (.bool true), Rl.Is (dfaA D.cls D.width (.slice an nx cn) vl), Rl.Is (dfaA D.cls D.width (.slice an nx cn) vl), Rl.Is (.string s), Rl.Is (.int .i64 (A : Int)), Rl.Is (.int .i64 (E : Int)), Rl.Is (.string z), Rl.Is (.int .i64 sz), Rl.Is (.int .i64 lz), Rl.Is (.bool false), Rl.Is (.bool false)]) (fun w1 => Below wr.heap.size wr w1) (fun w1 => Below.refl _ _) (by kernel_rfl) (by rw [hsz]; kernel_rfl) (by kernel_rfl) (by kernel_rfl) ?mono (Below.refl _ _).drew ?step ?fin
  case mono =>
    refine Rl.typ_mono ?_
    simp only [List.forall_mem_cons]
    repeat' (first | exact (fun v w w' h _ => h) | (intro p hp; cases hp; done) | refine And.intro ?_ ?_)
  case step =>
    refine ⟨?_, ?_, ?_, ?_, ?_, ?_, ?_, ?_, ?_, ?_, ?_, ?_, ?_, ?_, ?_, ?_, ?_, ?_, ?_, ?_, ?_, ?_, ?_, ?_, trivial⟩
    · intro ρ w1 hF hW
      have e9 : ρ 9 = .int .i64 (E : Int) := (show ρ 9 = a0.tmps.getD 9 undef from hF 9 (by decide)).trans h9
      have HW := hidden hW
      clear hF hW
      unfold Rl.Does
      go_simp
      first
        | exact ⟨rfl, HW.out, Below.refl _ _⟩
        | (simp; exact ⟨rfl, HW.out, Below.refl _ _⟩)
    · intro ρ w1 hF hW
      have e6 : ρ 6 = .int .i64 (A : Int) := (show ρ 6 = a0.tmps.getD 6 undef from hF 6 (by decide)).trans h6
      have HW := hidden hW
      clear hF hW
      unfold Rl.Does
      go_simp
      first
        | exact ⟨rfl, HW.out, Below.refl _ _⟩
        | (simp; exact ⟨rfl, HW.out, Below.refl _ _⟩)
    · intro ρ w1 hF hW
      have e8 : ρ 8 = .int .i64 (n : Int) := (show ρ 8 = a0.tmps.getD 8 undef from hF 8 (by decide)).trans h8
      have HW := hidden hW
      clear hF hW
      unfold Rl.Does
      go_simp
      first
        | exact ⟨rfl, HW.out, Below.refl _ _⟩
        | (simp; exact ⟨rfl, HW.out, Below.refl _ _⟩)
    · intro ρ w1 hF hW
      have e105 : ρ 105 = .int .i64 (A : Int) := hF 105 (by decide)
      have e106 : ρ 106 = .int .i64 (n : Int) := hF 106 (by decide)
      have HW := hidden hW
      clear hF hW
      unfold Rl.Does
      go_simp
      first
        | exact ⟨rfl, HW.out, Below.refl _ _⟩
        | (simp; exact ⟨rfl, HW.out, Below.refl _ _⟩)
    · intro ρ w1 hF hW
      have e104 : ρ 104 = .int .i64 (E : Int) := hF 104 (by decide)
      have e107 : ρ 107 = .int .i64 (G : Int) := hF 107 (by decide)
      have HW := hidden hW
      clear hF hW
      unfold Rl.Does
      go_simp
      first
        | exact ⟨rfl, HW.out, Below.refl _ _⟩
        | (simp; exact ⟨rfl, HW.out, Below.refl _ _⟩)
    · intro ρ w1 hF hW
      have e108 : ρ 108 = .bool false := hF 108 (by decide)
      have HW := hidden hW
      clear hF hW
      unfold Rl.Does
      go_simp
      first
        | exact ⟨rfl, HW.out, Below.refl _ _⟩
        | (simp; exact ⟨rfl, HW.out, Below.refl _ _⟩)
    · refine .inl ⟨false, fun v w h => h, fun _ => ?_, fun h => absurd rfl h⟩
      intro ρ w1 hF hW
      have e5 : ρ 5 = .slice (some ⟨xb, xo, none⟩) m c7 := (show ρ 5 = a0.tmps.getD 5 undef from hF 5 (by decide)).trans h5
      have HW := hidden hW
      clear hF hW
      unfold Rl.Does
      go_simp
      first
        | exact ⟨rfl, HW.out, Below.refl _ _⟩
        | (simp; exact ⟨rfl, HW.out, Below.refl _ _⟩)
    · refine .inl ⟨false, fun v w h => h, fun _ => ?_, fun h => absurd rfl h⟩
      intro ρ w1 hF hW
      have e7 : ρ 7 = .int .i64 (i : Int) := (show ρ 7 = a0.tmps.getD 7 undef from hF 7 (by decide)).trans h7
      have HW := hidden hW
      clear hF hW
      unfold Rl.Does
      go_simp
      first
        | exact ⟨rfl, HW.out, Below.refl _ _⟩
        | (simp; exact ⟨rfl, HW.out, Below.refl _ _⟩)
    · refine .inl ⟨false, fun v w h => h, fun _ => ?_, fun h => absurd rfl h⟩
      intro ρ w1 hF hW
      have e110 : ρ 110 = .slice (some ⟨xb, xo, none⟩) m c7 := hF 110 (by decide)
      have e111 : ρ 111 = .int .i64 (i : Int) := hF 111 (by decide)
      have HW := hidden hW
      clear hF hW
      unfold Rl.Does
      go_simp
      first
        | exact ⟨rfl, HW.out, Below.refl _ _⟩
        | (simp; exact ⟨rfl, HW.out, Below.refl _ _⟩)
    · refine .inl ⟨false, fun v w h => h, fun _ => ?_, fun h => absurd rfl h⟩
      intro ρ w1 hF hW
      have e112 : ρ 112 = .pointer (some ⟨xb, xo + i * 2, none⟩) := hF 112 (by decide)
      have HW := hidden hW
      clear hF hW
      unfold Rl.Does
      go_simp
      first
        | exact ⟨rfl, HW.out, Below.refl _ _⟩
        | (simp; exact ⟨rfl, HW.out, Below.refl _ _⟩)
    · refine .inl ⟨false, fun v w h => h, fun _ => ?_, fun h => absurd rfl h⟩
      intro ρ w1 hF hW
      have e113 : ρ 113 = .pointer (some ⟨xb, xo + i * 2, none⟩) := hF 113 (by decide)
      have HW := hidden hW
      have c0 := HC0.out _ hW
      clear hF hW
      unfold Rl.Does
      go_simp
      first
        | exact ⟨rfl, HW.out, Below.refl _ _⟩
        | (simp; exact ⟨rfl, HW.out, Below.refl _ _⟩)
    · refine .inl ⟨false, fun v w h => h, fun _ => ?_, fun h => absurd rfl h⟩
      intro ρ w1 hF hW
      have e114 : ρ 114 = .int .i64 t := hF 114 (by decide)
      have HW := hidden hW
      clear hF hW
      unfold Rl.Does
      go_simp
      first
        | exact ⟨rfl, HW.out, Below.refl _ _⟩
        | (simp; exact ⟨rfl, HW.out, Below.refl _ _⟩)
    · intro ρ w1 hF hW
      have e109 : ρ 109 = .bool false := hF 109 (by decide)
      have e115 : ρ 115 = .bool true := hF 115 (by decide)
      have HW := hidden hW
      clear hF hW
      unfold Rl.Does
      go_simp
      first
        | exact ⟨rfl, HW.out, Below.refl _ _⟩
        | (simp; exact ⟨rfl, HW.out, Below.refl _ _⟩)
    · intro ρ w1 hF hW
      have e116 : ρ 116 = .bool true := hF 116 (by decide)
      have HW := hidden hW
      clear hF hW
      unfold Rl.Does
      go_simp
      first
        | exact ⟨rfl, HW.out, Below.refl _ _⟩
        | (simp; exact ⟨rfl, HW.out, Below.refl _ _⟩)
    · refine .inl ⟨true, fun v w h => h, fun _ => ?_, fun h => absurd rfl h⟩
      intro ρ w1 hF hW
      have e1 : ρ 2 = .pointer (some ⟨B, 0, none⟩) := (show ρ 2 = a0.tmps.getD 2 undef from hF 2 (by decide)).trans h2
      have HW := hidden hW
      exact does_load_dfa16 rfl e1 (HX.out _ HW.out) ⟨rfl, HW.out, Below.refl _ _⟩
    · refine .inl ⟨true, fun v w h => h, fun _ => ?_, fun h => absurd rfl h⟩
      intro ρ w1 hF hW
      have e1 : ρ 2 = .pointer (some ⟨B, 0, none⟩) := (show ρ 2 = a0.tmps.getD 2 undef from hF 2 (by decide)).trans h2
      have HW := hidden hW
      exact does_load_dfa16 rfl e1 (HX.out _ HW.out) ⟨rfl, HW.out, Below.refl _ _⟩
    · refine .inl ⟨true, fun v w h => h, fun _ => ?_, fun h => absurd rfl h⟩
      intro ρ w1 hF hW
      have e1 : ρ 1 = .string s := (show ρ 1 = a0.tmps.getD 1 undef from hF 1 (by decide)).trans h1
      have HW := hidden hW
      clear hF hW
      unfold Rl.Does
      go_simp
      first
        | exact ⟨rfl, HW.out, Below.refl _ _⟩
        | (simp; exact ⟨rfl, HW.out, Below.refl _ _⟩)
    · refine .inl ⟨true, fun v w h => h, fun _ => ?_, fun h => absurd rfl h⟩
      intro ρ w1 hF hW
      have e6 : ρ 6 = .int .i64 (A : Int) := (show ρ 6 = a0.tmps.getD 6 undef from hF 6 (by decide)).trans h6
      have HW := hidden hW
      clear hF hW
      unfold Rl.Does
      go_simp
      first
        | exact ⟨rfl, HW.out, Below.refl _ _⟩
        | (simp; exact ⟨rfl, HW.out, Below.refl _ _⟩)
    · refine .inl ⟨true, fun v w h => h, fun _ => ?_, fun h => absurd rfl h⟩
      intro ρ w1 hF hW
      have e9 : ρ 9 = .int .i64 (E : Int) := (show ρ 9 = a0.tmps.getD 9 undef from hF 9 (by decide)).trans h9
      have HW := hidden hW
      clear hF hW
      unfold Rl.Does
      go_simp
      first
        | exact ⟨rfl, HW.out, Below.refl _ _⟩
        | (simp; exact ⟨rfl, HW.out, Below.refl _ _⟩)
    · refine .inl ⟨true, fun v w h => h, fun _ => ?_, fun h => absurd rfl h⟩
      intro ρ w1 hF hW
      have e120 : ρ 120 = .string s := hF 120 (by decide)
      have e121 : ρ 121 = .int .i64 (A : Int) := hF 121 (by decide)
      have e122 : ρ 122 = .int .i64 (E : Int) := hF 122 (by decide)
      have HW := hidden hW
      clear hF hW
      unfold Rl.Does
      go_simp
      first
        | exact ⟨rfl, HW.out, Below.refl _ _⟩
        | (simp; exact ⟨rfl, HW.out, Below.refl _ _⟩)
    · refine .inl ⟨true, fun v w h => h, fun _ => ?_, fun h => absurd rfl h⟩
      intro ρ w1 hF hW
      have e119 : ρ 119 = dfaA D.cls D.width (.slice an nx cn) vl := hF 119 (by decide)
      have e123 : ρ 123 = .string z := hF 123 (by decide)
      have HW := hidden hW
      clear hF hW
      unfold Rl.Does
      go_simp
      refine (HRZ.out _ HW.out).mono ?_
      rintro e w3 ⟨rfl, hb⟩
      exact ⟨_, rfl, rfl, below_then HW.out HW.out.size hb, hb⟩
    · refine .inl ⟨true, fun v w h => h, fun _ => ?_, fun h => absurd rfl h⟩
      intro ρ w1 hF hW
      have e118 : ρ 118 = dfaA D.cls D.width (.slice an nx cn) vl := hF 118 (by decide)
      have e124 : ρ 124 = .int .i64 sz := hF 124 (by decide)
      have HW := hidden hW
      clear hF hW
      unfold Rl.Does
      go_simp
      refine (HLZ.out _ HW.out).mono ?_
      rintro e w3 ⟨rfl, hb⟩
      exact ⟨_, rfl, rfl, below_then HW.out HW.out.size hb, hb⟩
    · refine .inl ⟨true, fun v w h => h, fun _ => ?_, fun h => absurd rfl h⟩
      intro ρ w1 hF hW
      have e125 : ρ 125 = .int .i64 lz := hF 125 (by decide)
      have HW := hidden hW
      clear hF hW
      unfold Rl.Does
      go_simp
      first
        | exact ⟨rfl, HW.out, Below.refl _ _⟩
        | (simp; exact ⟨rfl, HW.out, Below.refl _ _⟩)
    · intro ρ w1 hF hW
      have e117 : ρ 117 = .bool true := hF 117 (by decide)
      have e126 : ρ 126 = .bool false := hF 126 (by decide)
      have HW := hidden hW
      clear hF hW
      unfold Rl.Does
      go_simp
      first
        | exact ⟨rfl, HW.out, Below.refl _ _⟩
        | (simp; exact ⟨rfl, HW.out, Below.refl _ _⟩)
  case fin =>
    intro a1 w1 hst hv hW
    have hl : a1.tmps.getD 127 undef = .bool false := hv 23 127 (by kernel_rfl)
    exact hQ a1 w1 hst hl hW
set_option maxHeartbeats 8000000 in
set_option maxRecDepth 100000 in
theorem reg16_some {Q : Exit → Act → World → Prop} {a0 : Act} {wr : World}      {xb xo m c7 i n : Nat} {t : Int} (hsz : a0.tmps.size = 138) (h5 : a0.tmps.getD 5 undef = .slice (some ⟨xb, xo, none⟩) m c7) (h7 : a0.tmps.getD 7 undef = .int .i64 (i : Int)) (h8 : a0.tmps.getD 8 undef = .int .i64 (n : Int)) {A E G : Nat} (h6 : a0.tmps.getD 6 undef = .int .i64 (A : Int)) (h9 : a0.tmps.getD 9 undef = .int .i64 (E : Int)) (hw1 : IntKind.i64.wrap ((A : Int) + (n : Int)) = (G : Int)) (d2' : decide (G < E) = false) (HC0 : Hid (∀ W, Below wr.heap.size wr W → W.cell? ⟨xb, xo + i * 2, none⟩ = some (.int .i64 t))) (hki : (i : Int) < (m : Int)) (k1 : decide (t < 0) = false) (hQ : ∀ a1 w1, Rl.Still (opsOf (allReg 16)) a0 a1 → a1.tmps.getD 127 undef = .bool false → Below wr.heap.size wr w1 → Q .normal a1 w1) : (allReg 16).wp Try.prog Q a0 wr := by
  conv => arg 2; whnf
  refine Rl.wp_region_stepsN (R := fun w1 w2 => Below w1.heap.size w1 w2) (Rl.typ [Rl.Is (.int .i64 (E : Int)), Rl.Is (.int .i64 (A : Int)), Rl.Is (.int .i64 (n : Int)), Rl.Is (.int .i64 (G : Int)), Rl.Is (.bool false), Rl.Is (.bool false), Rl.Is (.slice (some ⟨xb, xo, none⟩) m c7), Rl.Is (.int .i64 (i : Int)), Rl.Is (.pointer (some ⟨xb, xo + i * 2, none⟩)), Rl.Is (.pointer (some ⟨xb, xo + i * 2, none⟩)), Rl.Is (.int .i64 t), Rl.Is (.bool false), Rl.Is (.bool false), Rl.Is (.bool false), Rl.Is (undef), Rl.Is (undef), Rl.Is (undef), Rl.Is (undef), Rl.Is (undef), Rl.Is (undef), Rl.Is (undef), Rl.Is (undef), Rl.Is (undef), Rl.Is (.bool false)]) (fun w1 => Below wr.heap.size wr w1) (fun w1 => Below.refl _ _) (by kernel_rfl) (by rw [hsz]; kernel_rfl) (by kernel_rfl) (by kernel_rfl) ?mono (Below.refl _ _).drew ?step ?fin
  case mono =>
    refine Rl.typ_mono ?_
    simp only [List.forall_mem_cons]
    repeat' (first | exact (fun v w w' h _ => h) | (intro p hp; cases hp; done) | refine And.intro ?_ ?_)
  case step =>
    refine ⟨?_, ?_, ?_, ?_, ?_, ?_, ?_, ?_, ?_, ?_, ?_, ?_, ?_, ?_, ?_, ?_, ?_, ?_, ?_, ?_, ?_, ?_, ?_, ?_, trivial⟩
    · intro ρ w1 hF hW
      have e9 : ρ 9 = .int .i64 (E : Int) := (show ρ 9 = a0.tmps.getD 9 undef from hF 9 (by decide)).trans h9
      have HW := hidden hW
      clear hF hW
      unfold Rl.Does
      go_simp
      first
        | exact ⟨rfl, HW.out, Below.refl _ _⟩
        | (simp; exact ⟨rfl, HW.out, Below.refl _ _⟩)
    · intro ρ w1 hF hW
      have e6 : ρ 6 = .int .i64 (A : Int) := (show ρ 6 = a0.tmps.getD 6 undef from hF 6 (by decide)).trans h6
      have HW := hidden hW
      clear hF hW
      unfold Rl.Does
      go_simp
      first
        | exact ⟨rfl, HW.out, Below.refl _ _⟩
        | (simp; exact ⟨rfl, HW.out, Below.refl _ _⟩)
    · intro ρ w1 hF hW
      have e8 : ρ 8 = .int .i64 (n : Int) := (show ρ 8 = a0.tmps.getD 8 undef from hF 8 (by decide)).trans h8
      have HW := hidden hW
      clear hF hW
      unfold Rl.Does
      go_simp
      first
        | exact ⟨rfl, HW.out, Below.refl _ _⟩
        | (simp; exact ⟨rfl, HW.out, Below.refl _ _⟩)
    · intro ρ w1 hF hW
      have e105 : ρ 105 = .int .i64 (A : Int) := hF 105 (by decide)
      have e106 : ρ 106 = .int .i64 (n : Int) := hF 106 (by decide)
      have HW := hidden hW
      clear hF hW
      unfold Rl.Does
      go_simp
      first
        | exact ⟨rfl, HW.out, Below.refl _ _⟩
        | (simp; exact ⟨rfl, HW.out, Below.refl _ _⟩)
    · intro ρ w1 hF hW
      have e104 : ρ 104 = .int .i64 (E : Int) := hF 104 (by decide)
      have e107 : ρ 107 = .int .i64 (G : Int) := hF 107 (by decide)
      have HW := hidden hW
      clear hF hW
      unfold Rl.Does
      go_simp
      first
        | exact ⟨rfl, HW.out, Below.refl _ _⟩
        | (simp; exact ⟨rfl, HW.out, Below.refl _ _⟩)
    · intro ρ w1 hF hW
      have e108 : ρ 108 = .bool false := hF 108 (by decide)
      have HW := hidden hW
      clear hF hW
      unfold Rl.Does
      go_simp
      first
        | exact ⟨rfl, HW.out, Below.refl _ _⟩
        | (simp; exact ⟨rfl, HW.out, Below.refl _ _⟩)
    · refine .inl ⟨false, fun v w h => h, fun _ => ?_, fun h => absurd rfl h⟩
      intro ρ w1 hF hW
      have e5 : ρ 5 = .slice (some ⟨xb, xo, none⟩) m c7 := (show ρ 5 = a0.tmps.getD 5 undef from hF 5 (by decide)).trans h5
      have HW := hidden hW
      clear hF hW
      unfold Rl.Does
      go_simp
      first
        | exact ⟨rfl, HW.out, Below.refl _ _⟩
        | (simp; exact ⟨rfl, HW.out, Below.refl _ _⟩)
    · refine .inl ⟨false, fun v w h => h, fun _ => ?_, fun h => absurd rfl h⟩
      intro ρ w1 hF hW
      have e7 : ρ 7 = .int .i64 (i : Int) := (show ρ 7 = a0.tmps.getD 7 undef from hF 7 (by decide)).trans h7
      have HW := hidden hW
      clear hF hW
      unfold Rl.Does
      go_simp
      first
        | exact ⟨rfl, HW.out, Below.refl _ _⟩
        | (simp; exact ⟨rfl, HW.out, Below.refl _ _⟩)
    · refine .inl ⟨false, fun v w h => h, fun _ => ?_, fun h => absurd rfl h⟩
      intro ρ w1 hF hW
      have e110 : ρ 110 = .slice (some ⟨xb, xo, none⟩) m c7 := hF 110 (by decide)
      have e111 : ρ 111 = .int .i64 (i : Int) := hF 111 (by decide)
      have HW := hidden hW
      clear hF hW
      unfold Rl.Does
      go_simp
      first
        | exact ⟨rfl, HW.out, Below.refl _ _⟩
        | (simp; exact ⟨rfl, HW.out, Below.refl _ _⟩)
    · refine .inl ⟨false, fun v w h => h, fun _ => ?_, fun h => absurd rfl h⟩
      intro ρ w1 hF hW
      have e112 : ρ 112 = .pointer (some ⟨xb, xo + i * 2, none⟩) := hF 112 (by decide)
      have HW := hidden hW
      clear hF hW
      unfold Rl.Does
      go_simp
      first
        | exact ⟨rfl, HW.out, Below.refl _ _⟩
        | (simp; exact ⟨rfl, HW.out, Below.refl _ _⟩)
    · refine .inl ⟨false, fun v w h => h, fun _ => ?_, fun h => absurd rfl h⟩
      intro ρ w1 hF hW
      have e113 : ρ 113 = .pointer (some ⟨xb, xo + i * 2, none⟩) := hF 113 (by decide)
      have HW := hidden hW
      have c0 := HC0.out _ hW
      clear hF hW
      unfold Rl.Does
      go_simp
      first
        | exact ⟨rfl, HW.out, Below.refl _ _⟩
        | (simp; exact ⟨rfl, HW.out, Below.refl _ _⟩)
    · refine .inl ⟨false, fun v w h => h, fun _ => ?_, fun h => absurd rfl h⟩
      intro ρ w1 hF hW
      have e114 : ρ 114 = .int .i64 t := hF 114 (by decide)
      have HW := hidden hW
      clear hF hW
      unfold Rl.Does
      go_simp
      first
        | exact ⟨rfl, HW.out, Below.refl _ _⟩
        | (simp; exact ⟨rfl, HW.out, Below.refl _ _⟩)
    · intro ρ w1 hF hW
      have e109 : ρ 109 = .bool false := hF 109 (by decide)
      have e115 : ρ 115 = .bool false := hF 115 (by decide)
      have HW := hidden hW
      clear hF hW
      unfold Rl.Does
      go_simp
      first
        | exact ⟨rfl, HW.out, Below.refl _ _⟩
        | (simp; exact ⟨rfl, HW.out, Below.refl _ _⟩)
    · intro ρ w1 hF hW
      have e116 : ρ 116 = .bool false := hF 116 (by decide)
      have HW := hidden hW
      clear hF hW
      unfold Rl.Does
      go_simp
      first
        | exact ⟨rfl, HW.out, Below.refl _ _⟩
        | (simp; exact ⟨rfl, HW.out, Below.refl _ _⟩)
    · exact .inl ⟨false, fun v w h => h, (fun h => by cases h), fun _ _ => rfl⟩
    · exact .inl ⟨false, fun v w h => h, (fun h => by cases h), fun _ _ => rfl⟩
    · exact .inl ⟨false, fun v w h => h, (fun h => by cases h), fun _ _ => rfl⟩
    · exact .inl ⟨false, fun v w h => h, (fun h => by cases h), fun _ _ => rfl⟩
    · exact .inl ⟨false, fun v w h => h, (fun h => by cases h), fun _ _ => rfl⟩
    · exact .inl ⟨false, fun v w h => h, (fun h => by cases h), fun _ _ => rfl⟩
    · exact .inl ⟨false, fun v w h => h, (fun h => by cases h), fun _ _ => rfl⟩
    · exact .inl ⟨false, fun v w h => h, (fun h => by cases h), fun _ _ => rfl⟩
    · exact .inl ⟨false, fun v w h => h, (fun h => by cases h), fun _ _ => rfl⟩
    · intro ρ w1 hF hW
      have e117 : ρ 117 = .bool false := hF 117 (by decide)
      have HW := hidden hW
      clear hF hW
      unfold Rl.Does
      go_simp
      first
        | exact ⟨rfl, HW.out, Below.refl _ _⟩
        | (simp; exact ⟨rfl, HW.out, Below.refl _ _⟩)
  case fin =>
    intro a1 w1 hst hv hW
    have hl : a1.tmps.getD 127 undef = .bool false := hv 23 127 (by kernel_rfl)
    exact hQ a1 w1 hst hl hW
end Go.Proofs.Ytgaadndhecokfaa
