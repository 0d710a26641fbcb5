/- EscText, MuPJoin, RxMake, RxJoin, put together. -/
import Derived.Test.YtgaadndhecokfaaMu24
import Derived.Test.YtgaadndhecokfaaMu22
import Derived.Test.YtgaadndhecokfaaMu23
import Derived.Test.YtgaadndhecokfaaMu06
import Derived.RangeFuncBox
import Derived.Laws.AppendOwnNone
/- The contract of strings.Builder's String at this program: the library's, laid at this program's numbers. -/
namespace Go.Proofs.Ytgaadndhecokfaa
open Go.RowKit Go.Lib Go.Shelf

def textRen : Go.Shelf.Ren := ⟨fun | 169 => 28 | n => n, fun | 70 => 65 | 9 => 9 | 0 => 0 | 72 => 68 | 37 => 66 | 127 => 100 | 3 => 3 | 5 => 5 | n => n, fun | n => n⟩
theorem textLays : Go.Proofs.Lays.n169 Try.prog textRen := {
  mixed := by kernel_rfl
  f169 := Try.func28.trans (congrArg some (by kernel_rfl))
  t0 := Try.underlying0
  a0 := Try.isAgg0
  z0 := Try.sizeOf0
  v0 := Try.zeroValue0
  t3 := Try.underlying3
  a3 := Try.isAgg3
  z3 := Try.sizeOf3
  v3 := Try.zeroValue3
  t9 := Try.underlying9
  a9 := Try.isAgg9
  z9 := Try.sizeOf9
  v9 := Try.zeroValue9
  t37 := Try.underlying66
  a37 := Try.isAgg66
  z37 := Try.sizeOf66
  v37 := Try.zeroValue66
  t70 := Try.underlying65
  a70 := Try.isAgg65
  z70 := Try.sizeOf65
  v70 := Try.zeroValue65
  t72 := Try.underlying68
  a72 := Try.isAgg68
  z72 := Try.sizeOf68
  v72 := Try.zeroValue68
  t127 := Try.underlying100
  a127 := Try.isAgg100
  z127 := Try.sizeOf100
  v127 := Try.zeroValue100 }
theorem textExtra : Builder.Extra Try.prog textRen := {
  sizeBuilder := by kernel_rfl
  liesBuilder := by kernel_rfl
  t5 := Try.underlying5
  a5 := Try.isAgg5
  z5 := Try.sizeOf5
  v5 := Try.zeroValue5
  infoByte := by kernel_rfl
  cellsByte := by kernel_rfl
  sizeByte := by kernel_rfl
  neB5 := by decide }
theorem text_calls {B b : Nat} {s : ByteArray} {w : World} (h : Holds w B b s) (hBw : B ≤ w.heap.size) :
    Calls Try.prog 28 #[.pointer (some ⟨b, 0, none⟩)] w fun e w' => e = .returned (.string s) ∧ Below B w w' :=
  (Any.Builder_String_any_k textLays textExtra B b s.data.toList w h hBw).mono fun _ _ ⟨he, _, hb, _⟩ => ⟨he, hb⟩
end Go.Proofs.Ytgaadndhecokfaa

/- Contract of munch.Join. -/
namespace Go.Proofs.Ytgaadndhecokfaa
open Go.RowKit Go.Lib Go.Joins

theorem fresh_holds16 (w : World) : Holds (w.alloc (.cells #[.pointer none, .slice none 0 0] 68)) w.heap.size w.heap.size ByteArray.empty := by
  exact .inl ⟨Nat.le_refl _, .slice none 0 0, heap_alloc_new w _, ⟨rfl, .inl ⟨rfl, rfl⟩⟩, by simp [Value.ownBlock]⟩
theorem Holds.later16 {w w' : World} {B b : Nat} {s : ByteArray} (h : Holds w B b s) (hb : Below w.heap.size w w') : Holds w' B b s := by
  have go : ∀ p, Lib.BuilderAtF 68 5 B b p (Lib.strCells s) w → Lib.BuilderAtF 68 5 B b p (Lib.strCells s) w' := fun p h => by
    have hlt := h.lt
    obtain ⟨hB, v, hbk, hown, hne⟩ := h
    exact ⟨hB, v, (hb.block b hlt).trans hbk, hown.kept (row := none) ⟨hb.os, hb.tape, hb.output, hb.size, fun k hk _ => hb.block k hk⟩ (by cases v.ownBlock <;> simp), hne⟩
  exact h.elim (fun h => .inl (go _ h)) (fun h => .inr (go _ h))
set_option maxHeartbeats 4000000 in
set_option maxRecDepth 100000 in
theorem join16_calls {w : World} {v : Value} {l : List Pc} (h : RdP w.heap.size w v l) (hs : (joinS l).size ≤ 100000) :
    Calls Try.prog 14 #[v] w fun e w' => e = .returned (.string (joinS l)) ∧ Below w.heap.size w w' := by
  obtain ⟨a, ca, rfl, a1, a2⟩ := h.form
  have HAT := hidden (fun (W : World) (hw : Below w.heap.size w W) i hi => h.at hw i hi)
  have HT := hidden (fun k hk => join_take l k hk)
  have HP := hidden (fun k => Nat.le_trans (join_prefix l k) hs)
  have HE := hidden (show joinS (l.take l.length) = joinS l by rw [List.take_of_length_le (Nat.le_refl _)])
  obtain ⟨m, hm⟩ : ∃ m, m = l.length := ⟨_, rfl⟩
  unfold maxLen at a2
  rw [← hm] at HAT HT HE a1 ⊢
  clear h hm hs
  go_enter Try.func14, Try.ntmps14
  go_wp2
  go_loopw [5, 8] (fun _ i wr => ∃ k : Nat, k ≤ m ∧ i = .int .i64 k ∧ Holds wr w.heap.size w.heap.size (joinS (l.take k)) ∧ Below w.heap.size w wr) (fun _ i _ => m - (Go.RowKit.intOf i).toNat)
  case atStart => exact ⟨0, by omega, rfl, fresh_holds16 w, (Below.refl _ _).alloc (Nat.le_refl _) _⟩
  case round =>
    obtain ⟨k, hk, rfl, hh, hb⟩ := hrel
    have HBW := hidden hb
    have HH := hidden hh
    clear hb hh
    by_cases hlt : k < m
    · obtain ⟨xb, xo, rfl, hx, x1, x2⟩ := HAT.out wr HBW.out k hlt
      have HTK := hidden (HT.out k hlt)
      have hs1 := HP.out k
      have hs2 := HP.out (k + 1)
      rw [HTK.out, ByteArray.size_append] at hs2
      obtain ⟨q, hq⟩ : ∃ q, q = l.getD k (0, ⟨#[]⟩) := ⟨_, rfl⟩
      obtain ⟨z, hz⟩ : ∃ z, z = joinS (l.take k) := ⟨_, rfl⟩
      rw [← hq] at x1 x2 HTK hs2
      rw [← hz] at HTK hs1 hs2 HH
      have hki : (k : Int) < (m : Int) := by omega
      obtain ⟨qt, qs⟩ := q
      dsimp only at x1 x2 HTK hs2
      have HSZ := hidden (And.intro hs1 hs2)
      clear hq hz hs1 hs2
      have hb1 := (Below.refl wr.heap.size wr).alloc (Nat.le_refl _) (.cells #[.int .i64 qt, .string qs] 33)
      have HWS := hidden (wstring_calls (HH.out.later16 hb1) qs (by have := HSZ.out.1; omega) (by have := HSZ.out.2; omega) (Nat.le_trans HBW.out.size hb1.size))
      have HB1 := hidden (below_then HBW.out HBW.out.size hb1)
      clear hb1
      go_wp2_with fail
      refine HWS.out.mono ?_
      rintro e w2 ⟨rfl, hh2, hb2⟩
      have HH2 := hidden hh2
      have HB2 := hidden (HB1.out.trans hb2)
      clear hh2 hb2
      go_wp2
      go_roundw
      case rel => exact ⟨k + 1, by omega, by go_num, by rw [HTK.out]; exact HH2.out, HB2.out⟩
      case measure => simp [Go.RowKit.intOf]; omega
    · obtain rfl : k = m := by omega
      have HTX := hidden (text_calls HH.out HBW.out.size)
      rw [HE.out] at HTX
      go_wp2_with fail
      refine HTX.out.mono ?_
      rintro e w2 ⟨rfl, hb2⟩
      go_wp2
      go_ret
      exact ⟨rfl, HBW.out.trans hb2⟩
end Go.Proofs.Ytgaadndhecokfaa

/- Contracts of what makes one step: step, Set, Empty, the reference's Set and Empty. -/
namespace Go.Proofs.Ytgaadndhecokfaa
open Go.RowKit

theorem row_one (w : World) (s : Stp) (b : Nat) (hb : b = w.heap.size) (base : Nat) (h : base ≤ w.heap.size) : RowX (w.alloc (.cells #[.int .i64 s.k, .int .u64 s.a, .int .u64 s.b, .int .u64 s.c, .int .u64 s.d] 109)) base (.slice (some ⟨b, 0, none⟩) 1 1) [s] := by
  subst hb
  exact World.ownsRow_lit (e := 109) (size := 5) w _ 1 h (by decide) rfl
theorem rset_rx (a b c d : Int) (w : World) : Calls Try.prog 68 #[.agg #[.int .u64 a, .int .u64 b, .int .u64 c, .int .u64 d]] w (RetX w [⟨1, a, b, c, d⟩]) := by
  go_enter Try.func68, Try.ntmps68
  go_wp2
  go_ret
  exact ⟨_, rfl, row_one _ ⟨1, a, b, c, d⟩ _ (by simp) _ (by simp), by go_grown⟩
theorem rempty_rx (w : World) : Calls Try.prog 82 #[] w (RetX w [kStp 2]) := by
  go_enter Try.func82, Try.ntmps82
  go_wp2
  go_ret
  exact ⟨_, rfl, row_one w (kStp 2) _ rfl _ (Nat.le_refl _), by go_grown⟩
end Go.Proofs.Ytgaadndhecokfaa

/- Lists of lists of steps; contracts of what joins them: the closure of joined, joined, the reference's many. -/
namespace Go.Proofs.Ytgaadndhecokfaa
open Go.RowKit Go.Lib Go.Joins

/-- a slice of slices of steps that reads as a list of lists; all blocks meet C -/
def Rxss (C : Nat → Prop) (w : World) (a : Option Addr) (len : Nat) (LL : List (List Stp)) : Prop :=
  LL.length = len ∧ (0 < len → ∃ b off, a = some ⟨b, off, none⟩ ∧ C b ∧ ∀ i, i < len → ∃ v, w.cell? ⟨b, off + i, none⟩ = some v ∧ SlX C w v (LL.getD i []))
def SlXs (C : Nat → Prop) (w : World) (v : Value) (LL : List (List Stp)) : Prop := ∃ a cap, v = .slice a LL.length cap ∧ LL.length ≤ cap ∧ cap ≤ maxLen ∧ Rxss C w a LL.length LL
theorem Rxss.below {C C' : Nat → Prop} {w w' : World} {a : Option Addr} {len : Nat} {LL : List (List Stp)} (h : Rxss C w a len LL) (hb : ∀ b, C b → C' b ∧ w'.heap[b]? = w.heap[b]?) : Rxss C' w' a len LL := by
  refine ⟨h.1, fun hp => ?_⟩
  obtain ⟨b, off, e, hC, hc⟩ := h.2 hp
  refine ⟨b, off, e, (hb b hC).1, fun i hi => ?_⟩
  obtain ⟨v, h1, h2⟩ := hc i hi
  exact ⟨v, (World.cell?_of_block (a := ⟨b, off + i, none⟩) (hb b hC).2).trans h1, h2.below hb⟩
theorem SlXs.below {C C' : Nat → Prop} {w w' : World} {v : Value} {LL : List (List Stp)} (h : SlXs C w v LL) (hb : ∀ b, C b → C' b ∧ w'.heap[b]? = w.heap[b]?) : SlXs C' w' v LL := by
  obtain ⟨a, cap, rfl, h1, h2, hS⟩ := h
  exact ⟨a, cap, rfl, h1, h2, hS.below hb⟩

/-- an append to a row of the call's own, from wherever the steps lie -/
theorem append_rx {P : Program} {w : World} {ops : Array Oper} {rest : List Oper} {o : Oper} {a : Act} {Q : Exit → Act → World → Prop} (hP : P = Try.prog) (hgd : o.guard = none) (s x : Operand)
    (ho : o.op = .call { callee := .builtin .append, args := #[s, x], argTypes := #[44, 44] })
    (base : Nat) (v u : Value) (L M : List Stp) (hs : a.eval s = v) (hown : RowX w base v L) {C : Nat → Prop} (hx : a.eval x = u) (hM : SlX C w u M) (hsz : L.length + M.length ≤ 1000000) (hbase : base ≤ w.heap.size)
    (h : ∀ a' l' c' w', RowX w' base (.slice a' l' c') (L ++ M) → w.grownBy w' v.ownBlock → wpList P ops Q rest (a.put o.dst (.slice a' l' c')) w') : wpList P ops Q (o :: rest) a w := by
  have h : ∀ v' w', RowX w' base v' (L ++ M) → w.grownBy w' v.ownBlock → wpList P ops Q rest (a.put o.dst v') w' := fun v' w' h1 h2 => by
    rcases ownsRow_forms h1 with ⟨rfl, _⟩ | ⟨g, cap, rfl⟩
    · exact h _ _ _ _ h1 h2
    · exact h _ _ _ _ h1 h2
  subst hP
  obtain ⟨i0, hi, hz0, hz1, hz2⟩ := info_parts infoRx
  obtain ⟨ad, cap, rfl, h1, h2, h0, hS⟩ := hM
  cases ad with
  | none =>
    have e0 := h0 rfl
    subst e0
    have hM0 : M = [] := List.eq_nil_of_length_eq_zero (by omega)
    subst hM0
    refine wpList_append_own_none hgd s x 44 ho base 109 i0 5 Try.underlying44 hi v L.length (rxCells L) hs hown hx (h v w ?_ ⟨rfl, rfl, rfl, Nat.le_refl _, fun _ _ _ => rfl⟩)
    rw [List.append_nil]
    exact hown
  | some ad =>
    obtain ⟨b, off, spot⟩ := ad
    have hnews : ∀ j z, (rxCells M)[j]? = some z → w.cell? ((⟨b, off, spot⟩ : Addr).add j) = some z := by
      by_cases hm : 0 < M.length
      · obtain ⟨b', off', e, _⟩ := hS.2 hm
        simp only [Option.some.injEq, Addr.mk.injEq] at e
        obtain ⟨rfl, rfl, rfl⟩ := e
        exact hS.news
      · have hM0 : M = [] := List.eq_nil_of_length_eq_zero (by omega)
        subst hM0
        intro j z hz
        simp [rxCells] at hz
    refine wpList_append_own w hgd s x 44 ho base 109 i0 _ 5 40 Try.underlying44 hi hz0 hz1 hz2 rfl (by decide) v L.length (rxCells L) hs hown ⟨b, off, spot⟩ M.length cap (rxCells M) hx (rxCells_len M) hnews (fun z hz => rxCells_one hz) (by unfold maxLen; omega) (by omega) hbase fun v' w' h3 h4 _ => h v' w' (RowX.more h3) h4
/-! ### lists of steps put behind one another -/
def jt (k : Int) : List (List Stp) → List Stp
  | [] => []
  | x :: r => x ++ [kStp k] ++ jt k r
def jn (k : Int) : List (List Stp) → List Stp
  | [] => []
  | x :: r => x ++ jt k r
theorem jt_append (k : Int) : ∀ a b, jt k (a ++ b) = jt k a ++ jt k b
  | [], b => rfl
  | x :: r, b => by simp [jt, jt_append k r b]
theorem take_moreL (R : List (List Stp)) (i : Nat) (h : i < R.length) : R.take (i + 1) = R.take i ++ [R.getD i []] := by
  rw [List.take_succ_eq_append_getElem h, List.getD_eq_getElem?_getD, List.getElem?_eq_getElem h]
  rfl
theorem jt_take (k : Int) (R : List (List Stp)) (i : Nat) (h : i < R.length) : jt k (R.take (i + 1)) = jt k (R.take i) ++ R.getD i [] ++ [kStp k] := by
  rw [take_moreL R i h, jt_append]
  simp [jt]
theorem jt_le (k : Int) (R : List (List Stp)) (i : Nat) : (jt k (R.take i)).length ≤ (jt k R).length := by
  have := jt_append k (R.take i) (R.drop i)
  rw [List.take_append_drop] at this
  rw [this]
  simp
theorem one_slX (w : World) (s : Stp) (b : Nat) (hb : b = w.heap.size) : SlX (fun _ => True) (w.alloc (.cells #[.int .i64 s.k, .int .u64 s.a, .int .u64 s.b, .int .u64 s.c, .int .u64 s.d] 109)) (.slice (some ⟨b, 0, none⟩) 1 1) [s] :=
  SlX.below (row_one w s b hb 0 (Nat.zero_le _)).reads fun _ _ => ⟨trivial, rfl⟩
end Go.Proofs.Ytgaadndhecokfaa
