/- DfOpen, DfSmallM, FuSame, SpWMath, put together. -/
import Derived.Test.YtmpjjnjggihojaaGreatDoorDf35
import Derived.Test.YtmpjjnjggihojaaGreatDoorDf13
import Derived.Test.YtmpjjnjggihojaaGreatDoorDf28
import Derived.Test.YtmpjjnjggihojaaGreatDoorDf36
import Derived.Test.YtmpjjnjggihojaaGreatDoorTie
import Derived.Test.YtmpjjnjggihojaaGreatDoorCards
import Derived.Laws.IdiomArrays
import Derived.Deep.Slices
import Derived.LaidMore
import Derived.Lay
import Derived.Lib.LaidTab
import Derived.SevenTiedAt
import Derived.Stop.Joined
import Derived.Test.YtmpjjnjggihojaaGreatDoorDf03
import Derived.Test.YtmpjjnjggihojaaGreatDoorDf12
import Derived.Test.YtmpjjnjggihojaaGreatDoorDf11
/- Machines as they come in, by value; what the three listed tables lay. -/
namespace Go.Proofs.YtmpjjnjggihojaaGreatDoor
open Go.ChangeShapes Go.WideShapes Go.ChangeAt Go.RowKit Go.Deep Go.Joins
set_option maxRecDepth 100000
theorem of_laid {W : World} {d1 d2 d3 : DataW Unit} (h1 : d1 = Rows.laid_math_bits_deBruijn32tab) (h2 : d2 = Rows.laid_math_bits_deBruijn64tab) (h3 : d3 = Lib.tabData .u64 Lib.pow10Tab) (h : laidMetH Tryz.prog [("math/bits.deBruijn32tab", d1), ("math/bits.deBruijn64tab", d2), ("internal/strconv.uint64pow10", d3)] W) : Pow W := by
  subst h1 h2 h3
  rw [MakeChecks.laidMetH_plain _ _ _ (by kernel_rfl)] at h
  obtain ⟨ps, ⟨_, _, _, _, _, _, _, _, _, _, ⟨_, _, _, _, _, _, _, _, _, _, ⟨g, t, cs, fuel, p, q, hg, ht, hv, hd, _, _⟩, _⟩, _⟩, _, _⟩ := h
  obtain rfl := Option.some.inj ((show Tryz.prog.globalNamed "internal/strconv.uint64pow10" = some 0 by kernel_rfl).symm.trans hg)
  obtain rfl := Option.some.inj ((show (Tryz.prog.globals[0]?).map (·.type) = some 164 by kernel_rfl).symm.trans ht)
  have e := Lib.cells_of_tab Tryz.underlying164 Tryz.underlying72 (by kernel_rfl) (by kernel_rfl) hd
  unfold Pow Lib.TabIs
  rw [hv, ← e]
/-- 256 cells that read as an array of bytes -/
theorem trod_arr14 {H : Type} {enc : TypeId × Value → H} {w : World} {base : Nat} {sp : Nat → Bool} {hd : Bool} {fuel : Nat} {cs : List Value} {x : DataW H × List MemPlace} (h : DataW.trod enc Tryz.prog w base sp hd fuel 30 cs = some x) :
    ∃ g : Nat → Nat, (∀ j, j < 256 → g j < 256) ∧ ∀ j, j < 256 → cs[j]? = some (.int .u8 (g j : Int)) := by
  obtain ⟨xs, m, rfl, hx, hlc, hxl, hi⟩ := DataW.trod_array Tryz.underlying30 h
  have hc : Tryz.prog.cellsOf 5 = 1 := by kernel_rfl
  have hone : ∀ j, j < 256 → ∃ n : Nat, n < 256 ∧ cs[j]? = some (.int .u8 (n : Int)) := fun j hj => by
    have h1 := hi j hj
    rw [hc, Nat.mul_one, List.getElem?_eq_getElem (by omega)] at h1
    obtain ⟨n, e, _, wn⟩ := DataW.trod_int Tryz.underlying5 h1
    have hb := wf_u8 wn
    refine ⟨n.toNat, by omega, ?_⟩
    have h2 : (cs.drop j).take 1 = [Value.int .u8 n] := e
    have h3 := congrArg (fun l => l[0]?) h2
    simp at h3
    rw [h3]
    congr 2
    omega
  exact ⟨fun j => if h : j < 256 then (hone j h).choose else 0, fun j hj => by simp only [hj, dif_pos]; exact (hone j hj).choose_spec.1, fun j hj => by simp only [hj, dif_pos]; exact (hone j hj).choose_spec.2⟩

theorem open_dfa {H : Type} {enc : TypeId × Value → H} {W : World} {b0 : Nat} {v : Value} {d : DataW H} {p : List MemPlace} (hv : Value.okWide Tryz.prog W .any b0 32 v) (h : DataW.Trod enc Tryz.prog W 0 (fun _ => true) true 32 v d p) :
    ∃ vn vl D, v = dfaA D.cls D.width vn vl ∧ RdDfa W.heap.size W vn vl D := by
  obtain ⟨cs, rfl, hsz⟩ := okWide_struct Tryz.underlying32 hv
  obtain ⟨fuel, hf⟩ := h
  obtain ⟨l⟩ := cs
  have hC : Tryz.prog.cellsOf 32 = 259 := by kernel_rfl
  have hl : l.length = 259 := by simpa [hC] using hsz
  obtain ⟨xs, n, _, hx, _, hxl, hfs⟩ := DataW.trod_struct Tryz.underlying32 (by simpa [Value.cells] using hf)
  have k0 : Tryz.prog.cellsOf 30 = 256 := by kernel_rfl
  have k1 : Tryz.prog.cellsOf 3 = 1 := by kernel_rfl
  have k2 : Tryz.prog.cellsOf 25 = 1 := by kernel_rfl
  have k3 : Tryz.prog.cellsOf 23 = 1 := by kernel_rfl
  have h0 := hfs 0 _ rfl
  have h1 := hfs 1 _ rfl
  have h2 := hfs 2 _ rfl
  have h3 := hfs 3 _ rfl
  have one : ∀ i (hi : i < 259), (l.drop i).take 1 = [l[i]] := fun i hi => by
    rw [List.drop_eq_getElem_cons (by omega)]
    rfl
  have hx4 : xs.length = 4 := hxl
  obtain ⟨y0, y1, y2, y3, rfl⟩ : ∃ a b c d, xs = [a, b, c, d] := by
    match xs, hx4 with
    | [a, b, c, d], _ => exact ⟨a, b, c, d, rfl⟩
  have h0 : DataW.trod enc Tryz.prog W 0 (fun _ => true) true n 30 ((l.drop 0).take (Tryz.prog.cellsOf 30)) = some y0 := h0
  have h1 : DataW.trod enc Tryz.prog W 0 (fun _ => true) true n 3 ((l.drop 256).take (Tryz.prog.cellsOf 3)) = some y1 := h1
  have h2 : DataW.trod enc Tryz.prog W 0 (fun _ => true) true n 25 ((l.drop 257).take (Tryz.prog.cellsOf 25)) = some y2 := h2
  have h3 : DataW.trod enc Tryz.prog W 0 (fun _ => true) true n 23 ((l.drop 258).take (Tryz.prog.cellsOf 23)) = some y3 := h3
  rw [k0, List.drop_zero] at h0
  rw [k1] at h1
  rw [k2] at h2
  rw [k3] at h3
  obtain ⟨g, g1, g2⟩ := trod_arr14 h0
  rw [one _ (by decide)] at h1 h2 h3
  obtain ⟨z, e1, _⟩ := DataW.trod_int Tryz.underlying3 h1
  obtain ⟨F, r2⟩ := open_rdZZ Tryz.underlying25 h2
  obtain ⟨L, r3, _⟩ := open_rdZ Tryz.underlying23 h3
  refine ⟨_, _, ⟨g, z, F, L⟩, ?_, ⟨r2, r3, g1⟩⟩
  show Value.agg ⟨l⟩ = .agg (dfaC g z _ _)
  congr 1
  apply Array.ext
  · rw [dfaC_size]; simpa using hl
  · intro j q1 q2
    have hj : j < 259 := by rw [dfaC_size] at q2; exact q2
    obtain ⟨d0, d1, d2⟩ := dfaC_rest g z (l[257]'(by omega)) (l[258]'(by omega))
    have q3 := Array.getElem?_eq_getElem q2
    by_cases c1 : j < 256
    · have e := g2 j c1
      have e2 := dfaC_cls g z (l[257]'(by omega)) (l[258]'(by omega)) c1
      rw [q3] at e2
      rw [List.getElem?_take, if_pos c1, List.getElem?_eq_getElem (by omega)] at e
      exact (Option.some.inj e).trans (Option.some.inj e2).symm
    · have hj3 : j = 256 ∨ j = 257 ∨ j = 258 := by omega
      rcases hj3 with rfl | rfl | rfl
      · rw [q3] at d0
        exact (List.head_eq_of_cons_eq e1).trans (Option.some.inj d0).symm
      · rw [q3] at d1
        exact (Option.some.inj d1).symm
      · rw [q3] at d2
        exact (Option.some.inj d2).symm
end Go.Proofs.YtmpjjnjggihojaaGreatDoor

/- Small: what is known of a machine that is. -/
namespace Go.Proofs.YtmpjjnjggihojaaGreatDoor
open Go.RowKit Go.Lib Go.Joins
def totM (F : List (List Int)) : Nat := (F.map fun l => min l.length 10000).sum
theorem totM_more (F : List (List Int)) (k : Nat) (hk : k < F.length) : totM (F.take (k + 1)) = totM (F.take k) + min (F.getD k []).length 10000 := by
  unfold totM
  rw [List.take_succ_eq_append_getElem hk, List.map_append, List.sum_append, List.getD_eq_getElem?_getD, List.getElem?_eq_getElem hk]
  simp
theorem totM_le (F : List (List Int)) : totM F ≤ F.length * 10000 := by
  unfold totM
  induction F with
  | nil => simp
  | cons L r ih => simp only [List.map_cons, List.sum_cons, List.length_cons]; omega
def smallM (D : DfaM) : Bool := decide (D.next.length ≤ 300) && (decide (D.label.length ≤ 300) && decide (totM D.next ≤ 10000))
set_option maxHeartbeats 4000000 in
set_option maxRecDepth 100000 in
theorem smallM_calls {w : World} {vn vl : Value} {D : DfaM} (h : RdDfa w.heap.size w vn vl D) : Calls Tryz.prog 13 #[dfaA D.cls D.width vn vl] w fun e w' => e = .returned (.bool (smallM D)) ∧ Below w.heap.size w w' := by
  obtain ⟨an, cn, rfl⟩ := h.next.form
  obtain ⟨al, cl, rfl⟩ := h.label.form
  have HFB := hidden (show D.next.length ≤ 9223372036854775807 from by obtain ⟨_, _, e, h1, h2, _⟩ := h.next; simp only [Value.slice.injEq] at e; unfold maxLen at h2; omega)
  have hlb : D.label.length ≤ 9223372036854775807 := by obtain ⟨_, _, e, h1, h2, _⟩ := h.label; simp only [Value.slice.injEq] at e; unfold maxLen at h2; omega
  have HFO := hidden (fun W (hb : Below w.heap.size w W) i (hi : i < D.next.length) => h.next.at hb i hi)
  have HF := hidden (show smallM D = (decide (D.next.length ≤ 300) && (decide (D.label.length ≤ 300) && decide (totM D.next ≤ 10000))) from rfl)
  have HMO := hidden (fun k (hk : k < D.next.length) => totM_more D.next k hk)
  have HLE := hidden (fun k => (show totM (D.next.take k) ≤ k * 10000 from Nat.le_trans (totM_le _) (Nat.mul_le_mul_right _ (by rw [List.length_take]; omega))))
  have HALL := hidden (show totM (D.next.take D.next.length) = totM D.next by rw [List.take_length])
  have H0 := hidden (show totM (D.next.take 0) = 0 by simp [totM])
  obtain ⟨nf, hnf⟩ : ∃ k, k = D.next.length := ⟨_, rfl⟩
  obtain ⟨nl, hnl⟩ : ∃ k, k = D.label.length := ⟨_, rfl⟩
  rw [← hnf] at HFO HF HMO HALL HFB ⊢
  rw [← hnl] at HF hlb ⊢
  have HX := hidden (DfaAt.new w D.cls D.width (.slice an nf cn) (.slice al nl cl))
  have HB0 := hidden ((Below.refl w.heap.size w).alloc (Nat.le_refl _) (.cells (dfaC D.cls D.width (.slice an nf cn) (.slice al nl cl)) 32))
  have hbx := run_box_dfa D.cls D.width (.slice an nf cn) (.slice al nl cl)
  have hnfb := HFB.out
  clear h hnf hnl
  go_enter Tryz.func13, Tryz.ntmps13
  go_wp2
  obtain ⟨w0, hw0⟩ : ∃ w0, w0 = w.alloc (.cells (dfaC D.cls D.width (.slice an nf cn) (.slice al nl cl)) 32) := ⟨_, rfl⟩
  rw [← hw0] at HX HB0 ⊢
  clear hw0
  have e2 := HX.out.next
  have e3 := HX.out.label
  go_loopw [3, 4] (fun av i wr => ∃ (k : Nat) (x : Int), k ≤ nf ∧ av = .int .i64 x ∧ i = .int .i64 k ∧ Hid (nf ≤ 300 → x = (totM (D.next.take k) : Nat)) ∧ wr = w0) (fun _ i _ => nf - (Go.RowKit.intOf i).toNat)
  case atStart => exact ⟨0, 0, by omega, rfl, rfl, hidden (fun _ => by rw [H0.out]; rfl), rfl⟩
  case round =>
    obtain ⟨k, x, hk, rfl, rfl, HXX, rfl⟩ := hrel
    by_cases hlt : k < nf
    · obtain ⟨b, off, a', c', rfl, hb, hc, _⟩ := HFO.out wr HB0.out k hlt
      obtain ⟨l, hl⟩ : ∃ l, l = (D.next.getD k []).length := ⟨_, rfl⟩
      have HK := hidden (HMO.out k hlt)
      rw [← hl] at hc HK
      have HLK := hidden (HLE.out k)
      clear hl
      go_wp2
      go_roundw
      case rel =>
        refine ⟨k + 1, _, by omega, rfl, rfl, hidden (fun h => ?_), trivial⟩
        have h1 := HXX.out h
        have h2 := HLK.out
        rw [HK.out, h1]
        unfold wrap64
        omega
      case measure => simp [Go.RowKit.intOf]; omega
    · have e : k = nf := by omega
      subst e
      have HB := hidden HB0.out
      by_cases h60 : k ≤ 300
      · have hx := HXX.out h60
        rw [HALL.out] at hx
        have q0 : decide (k ≤ 300) = true := decide_eq_true h60
        have q1 : decide ((k : Int) ≤ 300) = true := decide_eq_true (by omega)
        by_cases hl3 : nl ≤ 300
        · have q2 : decide (nl ≤ 300) = true := decide_eq_true hl3
          have q3 : decide ((nl : Int) ≤ 300) = true := decide_eq_true (by omega)
          obtain ⟨tt, htt⟩ : ∃ t, t = totM D.next := ⟨_, rfl⟩
          rw [← htt] at hx
          have HTT := hidden htt
          subst hx
          by_cases h4 : tt ≤ 10000
          · have q4 : decide ((tt : Int) ≤ 10000) = true := decide_eq_true (by omega)
            have HE := hidden (show smallM D = true by rw [HF.out, q0, q2, ← HTT.out, decide_eq_true h4]; rfl)
            clear h60 h4 htt hl3
            go_wp2
            go_ret
            exact ⟨ret_b HE.out.symm, HB.out⟩
          · have q4 : decide ((tt : Int) ≤ 10000) = false := decide_eq_false (by omega)
            have HE := hidden (show smallM D = false by rw [HF.out, q0, q2, ← HTT.out, decide_eq_false h4]; rfl)
            clear h60 h4 htt hl3
            go_wp2
            go_ret
            exact ⟨ret_b HE.out.symm, HB.out⟩
        · have q3 : decide ((nl : Int) ≤ 300) = false := decide_eq_false (by omega)
          have HE := hidden (show smallM D = false by rw [HF.out, decide_eq_false hl3, Bool.false_and, Bool.and_false])
          clear h60 hl3 hx
          go_wp2
          go_ret
          exact ⟨ret_b HE.out.symm, HB.out⟩
      · have q1 : decide ((k : Int) ≤ 300) = false := decide_eq_false (by omega)
        have HE := hidden (show smallM D = false by rw [HF.out, decide_eq_false h60, Bool.false_and])
        clear h60
        go_wp2
        go_ret
        exact ⟨ret_b HE.out.symm, HB.out⟩
end Go.Proofs.YtmpjjnjggihojaaGreatDoor

/- The reference's Same: nets that read as the same are. -/
namespace Go.Proofs.YtmpjjnjggihojaaGreatDoor
open Go.RowKit Go.Lib Go.Joins
end Go.Proofs.YtmpjjnjggihojaaGreatDoor

/- Spots that a word leads to, byte by byte; the mathematics, without the program. -/
namespace Go.Proofs.YtmpjjnjggihojaaGreatDoor

/-- a path, and one step more -/
theorem Path.snoc {S E : Nat → Nat → Bool} {p r q c : Nat} {u : List Nat} (h : Path S E p u r) (e : E r q = true) (s : S q c = true) : Path S E p (u ++ [c]) q := h.then e (.one s)
theorem Path.unsnoc {S E : Nat → Nat → Bool} : ∀ {p q c : Nat} {u : List Nat}, u ≠ [] → Path S E p (u ++ [c]) q → ∃ r, Path S E p u r ∧ E r q = true ∧ S q c = true
  | p, q, c, [], h, _ => absurd rfl h
  | p, q, c, [a], _, h => by
    cases h with
    | more h e t =>
      cases t with
      | one h2 => exact ⟨p, .one h, e, h2⟩
      | more _ _ t2 => exact absurd rfl (path_ne t2)
  | p, q, c, a :: b :: u, _, h => by
    cases h with
    | more h e t =>
      obtain ⟨r, h1, h2, h3⟩ := Path.unsnoc (u := b :: u) (by simp) t
      exact ⟨r, .more h e h1, h2, h3⟩
/-- the first k bytes lead to q -/
def Come (e : Ex) (W : List Nat) (k q : Nat) : Prop := 0 < k ∧ ∃ p, gF e 0 p = true ∧ Path (gS e 0) (gE e 0) p (W.take k) q
/-- what may come next -/
def Nxt (e : Ex) (W : List Nat) (k q : Nat) : Prop := (k = 0 ∧ gF e 0 q = true) ∨ ∃ p, Come e W k p ∧ gE e 0 p q = true
theorem come_zero (e : Ex) (W : List Nat) (q : Nat) : ¬ Come e W 0 q := fun h => Nat.lt_irrefl _ h.1
theorem come_more {e : Ex} {W : List Nat} {k : Nat} (hk : k < W.length) (q : Nat) : Come e W (k + 1) q ↔ Nxt e W k q ∧ gS e 0 q (W.getD k 0) = true := by
  have htk : W.take (k + 1) = W.take k ++ [W.getD k 0] := by
    rw [List.take_succ_eq_append_getElem hk, List.getD_eq_getElem?_getD, List.getElem?_eq_getElem hk]
    rfl
  unfold Come Nxt
  rw [htk]
  constructor
  · rintro ⟨_, p, hp, h⟩
    by_cases h0 : k = 0
    · subst h0
      rw [List.take_zero, List.nil_append] at h
      cases h with
      | one h => exact ⟨.inl ⟨rfl, hp⟩, h⟩
      | more _ _ t => exact absurd rfl (path_ne t)
    · obtain ⟨r, h1, h2, h3⟩ := Path.unsnoc (List.length_pos_iff.1 (by rw [List.length_take]; omega)) h
      exact ⟨.inr ⟨r, ⟨by omega, p, hp, h1⟩, h2⟩, h3⟩
  · rintro ⟨h | ⟨r, ⟨h0, p, hp, h1⟩, h2⟩, h3⟩
    · obtain ⟨rfl, hp⟩ := h
      refine ⟨by omega, q, hp, ?_⟩
      rw [List.take_zero, List.nil_append]
      exact .one h3
    · exact ⟨by omega, p, hp, h1.snoc h2 h3⟩
theorem come_lt {e : Ex} {W : List Nat} {k q : Nat} (h : Come e W k q) : q < plc e := by
  obtain ⟨h0, p, _, h⟩ := h
  have key : ∀ {p q : Nat} {u : List Nat}, Path (gS e 0) (gE e 0) p u q → q < plc e := by
    intro p q u h
    induction h with
    | one h => have := gS_in _ _ _ _ h; omega
    | more _ _ _ ih => exact ih
  exact key h
/-- said, just if the word leads to a last spot, or is empty and may be -/
theorem come_said {e : Ex} (he : e.ok) (W : List Nat) : ((W.length = 0 ∧ nul e = true) ∨ ∃ p, Come e W W.length p ∧ gL e 0 p = true) ↔ Lang e W := by
  by_cases h0 : W = []
  · subst h0
    rw [← nul_iff e he]
    constructor
    · rintro (h | ⟨p, h, _⟩)
      · exact h.2
      · exact absurd h (come_zero _ _ _)
    · exact fun h => .inl ⟨rfl, h⟩
  · have hl : 0 < W.length := List.length_pos_iff.2 h0
    rw [← led_iff e he 0 W h0]
    unfold Led Come
    rw [List.take_length]
    constructor
    · rintro (h | ⟨q, ⟨_, p, hp, h⟩, hq⟩)
      · omega
      · exact ⟨p, q, hp, h, hq⟩
    · rintro ⟨p, q, hp, h, hq⟩
      exact .inr ⟨q, ⟨hl, p, hp, h⟩, hq⟩
theorem sets_sets : ∀ e : Ex, e.ok → sets (ops e) = (setsE e).map sStp
  | .set f, _ => rfl
  | .emp, _ => rfl
  | .un k a, ⟨hk, ha⟩ => by
    have h := sets_sets a ha
    unfold sets at *
    simp only [ops, setsE, List.filter_append, h]
    rcases hk with rfl | rfl | rfl <;> simp [kStp]
  | .alt a c, ⟨ha, hc⟩ => by
    have h := sets_sets a ha
    have h' := sets_sets c hc
    unfold sets at *
    simp only [ops, setsE, List.filter_append, h, h', List.map_append]
    simp [kStp]
  | .cat a c, ⟨ha, hc⟩ => by
    have h := sets_sets a ha
    have h' := sets_sets c hc
    unfold sets at *
    simp only [ops, setsE, List.filter_append, h, h', List.map_append]
    simp [kStp]
theorem set_at {e : Ex} (he : e.ok) {q : Nat} (hq : q < plc e) : ∃ f, (sets (ops e)).getD q default = sStp f ∧ ∀ c, c < 256 → gS e 0 q c = f c := by
  refine ⟨(setsE e).getD q fNone, ?_, fun c hc => ?_⟩
  · rw [sets_sets e he, List.getD_eq_getElem?_getD, List.getD_eq_getElem?_getD, List.getElem?_map, List.getElem?_eq_getElem (by rw [setsE_len]; exact hq)]
    rfl
  · rw [gS_sets]
    simp [hc]
end Go.Proofs.YtmpjjnjggihojaaGreatDoor
