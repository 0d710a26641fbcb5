/- SetTwo, FaRdA, put together. -/
import Derived.Test.YthkboclooplpeaaGreatDoorRf09
import Derived.Deep.RegionHeld3
import Derived.Test.YthkboclooplpeaaGreatDoorRf01
import Derived.Test.YthkboclooplpeaaGreatDoorRf08
/- Contracts of the reference's functions on two sets, on a list of sets, and of its Not. -/
namespace Go.Proofs.YthkboclooplpeaaGreatDoor
open Go.RowKit

theorem rone_calls (k : Nat) (w : World) (h : k < 256) :
    Calls Tryz.prog 126 #[.int .u8 k] w fun e w' => e = .returned (.agg #[.int .u64 (word (fOne k) 0), .int .u64 (word (fOne k) 1), .int .u64 (word (fOne k) 2), .int .u64 (word (fOne k) 3)]) ∧ Below w.heap.size w w' := by
  have hw := fun w => with_nat fNone k w h
  simp only [word_none] at hw
  have HW := hidden hw
  clear hw
  go_enter Tryz.func126, Tryz.ntmps126
  go_wp2_with fail
  refine (HW.out _).mono ?_
  rintro e w' ⟨rfl, hb1⟩
  have hS := (SetAt.new w fNone).below (by
    rw [zeros_none] at hb1
    exact hb1)
  obtain ⟨c0, c1, c2, c3, f0, f1, f2, f3⟩ := hS.facts
  have HS := hidden hS
  have HB := hidden (below_then ((Below.refl w.heap.size w).alloc (Nat.le_refl _) _) (by simp) hb1)
  clear hS hb1
  go_wp2
  exact ret_setAt Tryz.results126 rfl rfl HS.out.stored (fun n _ => by simp [fOr, fNone]) ⟨rfl, below_cells HB.out _ (by omega) _ _ _ _⟩

theorem rhas_nat (f : Nat → Bool) (k : Nat) (w : World) (h1 : k < 256) :
    Calls Tryz.prog 109 #[(.agg #[.int .u64 (word (f) 0), .int .u64 (word (f) 1), .int .u64 (word (f) 2), .int .u64 (word (f) 3)]), .int .u8 k] w fun e w' => e = .returned (.bool (f k)) ∧ Below w.heap.size w w' := by
  have := rhas_calls f k w (by omega) (by omega)
  rwa [Int.toNat_natCast] at this

/-- which bytes two sets have -/
def fTwo (how : Int) (f g : Nat → Bool) (n : Nat) : Bool := (how == 0 && (f n || g n)) || (how == 1 && (f n && g n)) || (how == 2 && (f n && !g n))

theorem bcell {W w1 : World} (hb : Below W.heap.size W w1) : (∀ b o, b < W.heap.size → w1.cell? ⟨b, o, none⟩ = W.cell? ⟨b, o, none⟩) ∧ (∀ b o, b < W.heap.size → w1.frozen? ⟨b, o, none⟩ = W.frozen? ⟨b, o, none⟩) :=
  ⟨fun b o h => hb.cell (p := ⟨b, o, none⟩) h, fun b o h => hb.frozen (p := ⟨b, o, none⟩) h⟩

theorem up_step {f : Nat → Bool} {k : Nat} (h : f k = true) (n : Nat) : fOr (fUpto f k) (fOne k) n = fUpto f (k + 1) n := by
  simp only [fOr, fUpto, fOne]
  by_cases e : n = k
  · subst e; simp [h]
  · rw [Bool.eq_iff_iff]; simp [e]; omega
theorem up_skip {f : Nat → Bool} {k : Nat} (h : f k = false) (n : Nat) : fUpto f k n = fUpto f (k + 1) n := by
  simp only [fUpto]
  by_cases e : n = k
  · subst e; simp [h]
  · rw [Bool.eq_iff_iff]; simp; omega

theorem SetAt.alloc {w : World} {B : Nat} {f : Nat → Bool} (h : SetAt w B f) (o : Obj) : SetAt (w.alloc o) B f := (heap_alloc_old w o h.lt).trans h
theorem SetAt.newAt (w : World) (f : Nat → Bool) (B : Nat) (hB : w.heap.size = B) : SetAt (w.alloc (.cells #[.int .u64 (word (f) 0), .int .u64 (word (f) 1), .int .u64 (word (f) 2), .int .u64 (word (f) 3)] 33)) B f := by
  subst hB
  exact SetAt.new w f
theorem SetAt.newNone (w : World) (B : Nat) (hB : w.heap.size = B) : SetAt (w.alloc (.cells #[.int .u64 0, .int .u64 0, .int .u64 0, .int .u64 0] 33)) B fNone := by
  rw [zeros_none]
  exact SetAt.newAt w fNone B hB

set_option maxRecDepth 100000 in
theorem two_calls (how : Int) (f g : Nat → Bool) (w : World) (hH : how = 0 ∨ how = 1 ∨ how = 2) :
    Calls Tryz.prog 92 #[.int .i64 how, (.agg #[.int .u64 (word (f) 0), .int .u64 (word (f) 1), .int .u64 (word (f) 2), .int .u64 (word (f) 3)]), (.agg #[.int .u64 (word (g) 0), .int .u64 (word (g) 1), .int .u64 (word (g) 2), .int .u64 (word (g) 3)])] w fun e w' => e = .returned (.agg #[.int .u64 (word (fTwo how f g) 0), .int .u64 (word (fTwo how f g) 1), .int .u64 (word (fTwo how f g) 2), .int .u64 (word (fTwo how f g) 3)]) ∧ Below w.heap.size w w' := by
  have HH := hidden hH
  clear hH
  go_enter Tryz.func92, Tryz.ntmps92
  go_wp2
  go_loopw [8] (fun i wr => ∃ k : Nat, k ≤ 256 ∧ i = .int .i64 k ∧ SetAt wr w.heap.size f ∧ SetAt wr (w.heap.size + 1) g ∧ SetAt wr (w.heap.size + 1 + 1) fNone ∧ SetAt wr (w.heap.size + 1 + 1 + 1) (fUpto (fTwo how f g) k) ∧ Below w.heap.size w wr) (fun i _ => 256 - (intOf i).toNat)
  case atStart =>
    exact ⟨0, by omega, rfl, (((SetAt.new w f).alloc _).alloc _).alloc _, ((SetAt.newAt _ g _ (by simp)).alloc _).alloc _, (SetAt.newNone _ _ (by simp)).alloc _, (SetAt.newNone _ _ (by simp)).congr fun n _ => (upto_none _ n).symm, by go_grown⟩
  case round =>
    obtain ⟨k, hk, rfl, hF, hG, hA, hS, hb⟩ := hrel
    have HS := hidden hS
    have HA := hidden hA
    have HF := hidden hF
    have HG := hidden hG
    have l1 := hS.lt
    by_cases hlt : k < 256
    · obtain ⟨c0, c1, c2, c3, _, _, _, _⟩ := hF.facts
      obtain ⟨d0, d1, d2, d3, _, _, _, _⟩ := hG.facts
      clear hS hA hF hG
      have hwr : IntKind.u8.wrap (k : Int) = k := by rw [IntKind.wrap_u8]; omega
      go_wp2_with fail
      go_region_held3 (fun w' => w'.cell? ⟨w.heap.size, 0, none⟩ = some (.int .u64 (word f 0)) ∧ w'.cell? ⟨w.heap.size, 1, none⟩ = some (.int .u64 (word f 1)) ∧ w'.cell? ⟨w.heap.size, 2, none⟩ = some (.int .u64 (word f 2)) ∧ w'.cell? ⟨w.heap.size, 3, none⟩ = some (.int .u64 (word f 3)) ∧
        w'.cell? ⟨w.heap.size + 1, 0, none⟩ = some (.int .u64 (word g 0)) ∧ w'.cell? ⟨w.heap.size + 1, 1, none⟩ = some (.int .u64 (word g 1)) ∧ w'.cell? ⟨w.heap.size + 1, 2, none⟩ = some (.int .u64 (word g 2)) ∧ w'.cell? ⟨w.heap.size + 1, 3, none⟩ = some (.int .u64 (word g 3)) ∧ Below wr.heap.size wr w')
        (first | (go_keep; done) | ((try dsimp only); (try go_split_ands); refine ⟨?_, ?_, ?_, ?_, ?_, ?_, ?_, ?_, ?_⟩ <;> (first | assumption | (exact (Below.refl _ _).drew) | (exact below_after ((Below.refl _ _).drew) hb1) | (exact below_after (by assumption) hb1) | ((rw [hb1.cell (by simp; omega)]; (first | assumption | (simp; assumption)))))))
        ((go_at_call 109; refine (rhas_nat _ k _ hlt).mono ?_; rintro e w1 ⟨rfl, hb1⟩; have hz1 := hb1.size; (try simp at hz1)))
      go_split_ands
      have hB : Below wr.heap.size wr w1 := by assumption
      have hS' := HS.out.below hB
      have hA' := HA.out.below hB
      have hF' := HF.out.below hB
      have hG' := HG.out.below hB
      have hb' := hidden (below_then hb (by omega) hB)
      obtain ⟨p0, p1, p2, p3, q0, q1, q2, q3⟩ := hS'.facts
      have HS' := hidden hS'
      have HA' := hidden hA'
      have HF' := hidden hF'
      have HG' := hidden hG'
      clear hB hS' hA' hF' hG' HS HA HF HG hb c0 c1 c2 c3 d0 d1 d2 d3
      have hH := HH.out
      clear HH
      rcases hH with e | e | e
      all_goals subst e
      all_goals cases hf : f k <;> cases hg : g k
      all_goals go_wp2_with fail
      all_goals first
        | exact ⟨⟨k + 1, by omega, by go_num, HF'.out, HG'.out, HA'.out, HS'.out.congr fun n _ => up_skip (by simp [fTwo, hf, hg]) n, hb'.out⟩, by simp [intOf]; omega⟩
        | ((with_reducible refine (with_nat _ k _ (by omega)).mono ?_)
           rintro e w2 ⟨rfl, hb2⟩
           have hS2 := HS'.out.below hb2
           have hA2 := HA'.out.below hb2
           have hF2 := HF'.out.below hb2
           have hG2 := HG'.out.below hb2
           have l2 := hb'.out.size
           have HB2 := hidden (below_then hb'.out (by omega) hb2)
           clear p0 p1 p2 p3 q0 q1 q2 q3
           obtain ⟨p0, p1, p2, p3, q0, q1, q2, q3⟩ := hS2.facts
           have HS2 := hidden hS2
           have HA2 := hidden hA2
           have HF2 := hidden hF2
           have HG2 := hidden hG2
           clear hS2 hA2 hF2 hG2 hb2 HS' HA' HF' HG'
           go_wp2
           go_roundw
           case rel =>
             exact ⟨k + 1, by omega, by go_num, set_other HF2.out (by omega) _ _ _ _, set_other HG2.out (by omega) _ _ _ _, set_other HA2.out (by omega) _ _ _ _, HS2.out.stored.congr fun n _ => up_step (by simp [fTwo, hf, hg]) n,
               below_cells HB2.out _ (by omega) _ _ _ _⟩
           case measure => simp [intOf]; omega)
    · have e : k = 256 := by omega
      have HE := hidden e
      obtain ⟨c0, c1, c2, c3, f0, f1, f2, f3⟩ := hS.facts
      obtain ⟨d0, d1, d2, d3, g0, g1, g2, g3⟩ := hA.facts
      clear hS hA hF hG e
      go_wp2
      refine ret_setAt Tryz.results92 rfl rfl HA.out.stored (fun n hn => ?_) ⟨rfl, below_cells hb _ (by omega) _ _ _ _⟩
      rw [HE.out, upto_all _ n hn]
end Go.Proofs.YthkboclooplpeaaGreatDoor

/- The reference's reader: rows of lists of steps; an atom of one byte. -/
namespace Go.Proofs.YthkboclooplpeaaGreatDoor
open Go.RowKit Go.Lib Go.Joins

theorem rset_fn (f : Nat → Bool) (w : World) : Calls Tryz.prog 117 #[(.agg #[.int .u64 (word (f) 0), .int .u64 (word (f) 1), .int .u64 (word (f) 2), .int .u64 (word (f) 3)])] w (RetX w [sStp f]) := by
  go_enter Tryz.func117, Tryz.ntmps117
  go_wp2
  go_ret
  exact ⟨_, rfl, row_one _ (sStp f) _ (by simp) _ (by simp), by go_grown⟩
theorem rowX_slice {w : World} {base : Nat} {v : Value} {L : List Stp} (h : RowX w base v L) : ∃ a l c, v = .slice a l c := by
  rcases ownsRow_forms h with ⟨rfl, _⟩ | ⟨g, cap, rfl⟩
  · exact ⟨_, _, _, rfl⟩
  · exact ⟨_, _, _, rfl⟩
theorem infoSl : (Tryz.prog.info? 22).map (fun i => (i.zero, i.size, i.bytes)) = some (some (.slice none 0 0), 1, 24) := by kernel_rfl
def Typed (w : World) (b : Nat) : Prop := ∃ cur, w.heap[b]? = some (.cells cur 73 (0, 0))
theorem RowX.typed {w : World} {base : Nat} {v : Value} {L : List Stp} (h : RowX w base v L) : SlX (Typed w) w v L := by
  have h' := h
  obtain ⟨_, ⟨rfl, h1⟩ | ⟨g, cap, cur, rfl, hb, hg, h1, h2, h3, h4⟩⟩ := h
  · exact ⟨none, 0, by rw [h1], by omega, by decide, fun _ => rfl, rfl, fun h => by omega⟩
  · refine ⟨some ⟨g, 0, none⟩, cap, rfl, h1, h2, (fun e => by cases e), rfl, fun _ => ⟨g, 0, rfl, ⟨cur, hg⟩, fun i hi => ?_⟩⟩
    rw [Nat.zero_add]
    exact rxAt_of_cells hi fun j hj => World.ownsRow.cellAt h' j hj
theorem typed_kept {w w' : World} {u : Value} {L : List Stp} (h : SlX (Typed w) w u L) (hb : ∀ b, Typed w b → w'.heap[b]? = w.heap[b]?) : SlX (Typed w') w' u L :=
  h.below fun b hb' => ⟨by
    obtain ⟨cur, hc⟩ := hb'
    exact ⟨cur, (hb b ⟨cur, hc⟩).trans hc⟩, hb b hb'⟩
theorem typed_lt {w : World} {b : Nat} (h : Typed w b) : b < w.heap.size := by
  obtain ⟨cur, h⟩ := h
  exact (Array.getElem?_eq_some_iff.1 h).1
theorem typed_below {w w' : World} {u : Value} {L : List Stp} (h : SlX (Typed w) w u L) (hb : Below w.heap.size w w') : SlX (Typed w') w' u L := typed_kept h fun b hb' => hb.block b (typed_lt hb')
/-- a row of lists of steps, of the call's own -/
def Sg (w : World) (LL : List (List Stp)) (v : Value) (wr : World) : Prop :=
  ∃ vals : List Value, wr.ownsRow w.heap.size 22 1 v LL.length vals ∧ Below w.heap.size w wr ∧ ∀ i, i < LL.length → ∃ u, vals[i]? = some u ∧ SlX (Typed wr) wr u (LL.getD i [])
theorem Sg.frame {w : World} {LL : List (List Stp)} {v : Value} {wr : World} (h : Sg w LL v wr) : Below w.heap.size w wr := by
  obtain ⟨_, _, h, _⟩ := h
  exact h
theorem Sg.below {w : World} {LL : List (List Stp)} {v : Value} {wr w' : World} (h : Sg w LL v wr) (hb : Below wr.heap.size wr w') : Sg w LL v w' := by
  obtain ⟨vals, h1, h2, h3⟩ := h
  refine ⟨vals, ⟨h1.1, ?_⟩, below_then h2 h2.size hb, fun i hi => ?_⟩
  · rcases h1.2 with hn | ⟨g, cap, cur, rfl, hb', hgg, rest⟩
    · exact .inl hn
    · exact .inr ⟨g, cap, cur, rfl, hb', by rw [hb.block g (Array.getElem?_eq_some_iff.1 hgg).1]; exact hgg, rest⟩
  · obtain ⟨u, g1, g2⟩ := h3 i hi
    exact ⟨u, g1, typed_below g2 hb⟩
theorem Sg.nil (w : World) (b : Nat) (hb : b = w.heap.size) (cur : Array Value) (hc : cur = #[]) : Sg w [] (.slice (some ⟨b, 0, none⟩) 0 0) (w.alloc (.cells cur 22)) := by
  subst hb hc
  exact ⟨[], World.ownsRow_lit (e := 22) (size := 1) w #[] 0 (Nat.le_refl _) (by decide) rfl, (Below.refl _ _).alloc (Nat.le_refl _) _, fun i hi => absurd hi (by simp)⟩
theorem Sg.one {w w1 : World} {u : Value} {L : List Stp} (hb : Below w.heap.size w w1) (hu : SlX (Typed w1) w1 u L) (b : Nat) (he : b = w1.heap.size) : Sg w [L] (.slice (some ⟨b, 0, none⟩) 1 1) (w1.alloc (.cells #[u] 22)) := by
  subst he
  refine ⟨[u], World.ownsRow_lit (e := 22) (size := 1) w1 #[u] 1 hb.size (by decide) rfl, hb.alloc hb.size _, fun i hi => ?_⟩
  obtain rfl : i = 0 := by simpa using hi
  exact ⟨u, rfl, typed_below hu ((Below.refl w1.heap.size w1).alloc (Nat.le_refl _) _)⟩
theorem Sg.all {w : World} {LL : List (List Stp)} {v : Value} {wr : World} (h : Sg w LL v wr) : SlXs (fun b => b < wr.heap.size) wr v LL := by
  obtain ⟨vals, h1, _, h3⟩ := h
  rcases h1.2 with ⟨rfl, h0⟩ | ⟨g, cap, cur, rfl, hb, hgg, g1, g2, _⟩
  · obtain rfl : LL = [] := List.eq_nil_of_length_eq_zero h0
    exact ⟨none, 0, rfl, Nat.le_refl _, by decide, rfl, fun h => absurd h (by simp)⟩
  · refine ⟨some ⟨g, 0, none⟩, cap, rfl, by omega, g2, rfl, fun _ => ⟨g, 0, rfl, (Array.getElem?_eq_some_iff.1 hgg).1, fun i hi => ?_⟩⟩
    obtain ⟨u, q1, q2⟩ := h3 i hi
    exact ⟨u, by rw [Nat.zero_add, World.ownsRow.cellAt h1 i (by omega)]; exact q1, q2.below fun b hb => ⟨typed_lt hb, rfl⟩⟩
/-- one list more -/
theorem app_sg {w0 w : World} {ops : Array Oper} {rest : List Oper} {o : Oper} {a : Act} {Q : Exit → Act → World → Prop} (hgd : o.guard = none) (s x : Operand)
    (ho : o.op = .call { callee := .builtin .append, args := #[s, x], argTypes := #[75, 75] }) {xb : Nat} {v u : Value} {LL : List (List Stp)} {L : List Stp}
    (hs : a.eval s = v) (hS : Sg w0 LL v w) (hx : a.eval x = .slice (some ⟨xb, 0, none⟩) 1 1) (hxb : w.heap[xb]? = some (.cells #[u] 22 (0, 0))) (hu1 : u.oneCell' = true) (hu : SlX (Typed w) w u L) {n : Nat} (hn : LL.length = n) (hn2 : n ≤ 100000)
    (h : ∀ g' c' w', Sg w0 (LL ++ [L]) (.slice (some ⟨g', 0, none⟩) (n + 1) c') w' → wpList Tryz.prog ops Q rest (a.put o.dst (.slice (some ⟨g', 0, none⟩) (n + 1) c')) w') : wpList Tryz.prog ops Q (o :: rest) a w := by
  subst hn
  obtain ⟨i0, hi, hz0, hz1, hz2⟩ := info_parts infoSl
  obtain ⟨vals, hown, hB, hall⟩ := hS
  refine wpList_append_own w hgd s x 75 ho w0.heap.size 22 i0 (.slice none 0 0) 1 24 Tryz.underlying75 hi hz0 hz1 hz2 rfl (by decide) _ LL.length vals hs hown ⟨xb, 0, none⟩ 1 1 [u] hx rfl (fun j z hj => ?_) (fun z hz => by simp at hz; subst hz; exact hu1) (by unfold maxLen; omega) (by omega) hB.size fun v' w' h3 h4 _ => ?_
  · match j, hj with
    | 0, hj =>
      simp only [List.getElem?_cons_zero, Option.some.injEq] at hj
      subst hj
      rw [Addr.add_lit, cell_of_row w xb _ _ _ _ hxb]
      rfl
  · have hk : ∀ b, Typed w b → w'.heap[b]? = w.heap[b]? := fun b hb => h4.block b (typed_lt hb) fun e => by
      obtain ⟨cur, hc⟩ := hb
      rcases hown.2 with ⟨rfl, _⟩ | ⟨g, cap, cur', rfl, _, hgg, _⟩
      · cases e
      · simp only [Value.ownBlock, Option.some.injEq] at e
        subst e
        rw [hgg] at hc
        simp at hc
    have hlen : vals.length = LL.length := by simpa using hown.1
    have hS' : Sg w0 (LL ++ [L]) v' w' := by
      refine ⟨vals ++ [u], by simpa using h3, hB.grown h4 hB.size fun k e => (hown.lt k e).1, fun i hi => ?_⟩
      by_cases e : i = LL.length
      · subst e
        refine ⟨u, by rw [List.getElem?_append_right (by omega), hlen, Nat.sub_self]; rfl, ?_⟩
        have hg : (LL ++ [L]).getD LL.length [] = L := by simp [List.getD_eq_getElem?_getD]
        rw [hg]
        exact typed_kept hu hk
      · have hi' : i < LL.length := by simp at hi; omega
        obtain ⟨x, g1, g2⟩ := hall i hi'
        have hg : (LL ++ [L]).getD i [] = LL.getD i [] := by simp [List.getD_eq_getElem?_getD, List.getElem?_append_left hi']
        rw [hg]
        exact ⟨x, by rw [List.getElem?_append_left (by omega)]; exact g1, typed_kept g2 hk⟩
    rcases ownsRow_forms h3 with ⟨_, h0⟩ | ⟨g, c, rfl⟩
    · omega
    · exact h g c w' hS'
/-- what a reading of steps answers -/
def Rd (w : World) (L : List Stp) (n : Nat) (e : Ending) (w' : World) : Prop := ∃ v, e = .returned (.tuple #[v, .int .i64 (n : Int), .bool true]) ∧ RowX w' w.heap.size v L ∧ Below w.heap.size w w'
def RT : List UInt8 := [40, 41, 91, 93, 124, 42, 43, 63, 46]
/-- a byte that is an atom by itself -/
def Plain (c : UInt8) : Prop := vis c.toNat = true ∧ c ≠ 92 ∧ c ∉ RT
set_option maxHeartbeats 2000000 in
set_option maxRecDepth 100000 in
theorem ratom_at (s : ByteArray) (p : Nat) (c : UInt8) (w : World) (hat : At s p c) (hs : s.size ≤ 1000) (hc : Plain c) :
    Calls Tryz.prog 113 #[.string s, .int .i64 (p : Int)] w (Rd w [sStp (fOne c.toNat)] (p + 1)) := by
  have hC := fun w => rchar_at s p c RT w hat hs (by decide) hc.1 hc.2.1 hc.2.2
  have hO := fun w => rone_calls c.toNat w (UInt8.toNat_lt _)
  have q1 : ((c.toNat : Int) == 40) = false := toNat_ne (d := 40) fun h => hc.2.2 (by rw [h]; decide)
  have q2 : ((c.toNat : Int) == 46) = false := toNat_ne (d := 46) fun h => hc.2.2 (by rw [h]; decide)
  have q3 : ((c.toNat : Int) == 91) = false := toNat_ne (d := 91) fun h => hc.2.2 (by rw [h]; decide)
  obtain ⟨hp, hx⟩ := hat
  have hq := fun w => rset_fn (fOne c.toNat) w
  have HC := hidden hC
  have HO := hidden hO
  have HQ := hidden hq
  have q0 : decide ((p : Int) < (s.size : Int)) = true := decide_eq_true (by omega)
  have q0' : decide (p < s.size) = true := decide_eq_true (by omega)
  generalize fOne c.toNat = f at *
  generalize (c.toNat : Int) = n at *
  clear hC hO hq hc
  go_enter Tryz.func113, Tryz.ntmps113
  go_wp2_with fail
  refine (HC.out _).mono ?_
  rintro e w1 ⟨rfl, rfl⟩
  go_wp2_with fail
  refine (HO.out _).mono ?_
  rintro e w1 ⟨rfl, hb1⟩
  go_wp2_with fail
  refine (HQ.out _).mono ?_
  rintro e w2 ⟨v, rfl, hr, hb2⟩
  obtain ⟨a1, l1, c1, rfl⟩ := rowX_slice hr
  go_wp2
  go_ret3
  exact ⟨_, rfl, hr.lower hb1.size, below_after hb1 hb2⟩
end Go.Proofs.YthkboclooplpeaaGreatDoor
