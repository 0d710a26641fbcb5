/- The operations that came in (a slice of structs that hold slices of texts), and the contract of 'few'. -/
import Derived.Test.YtcfedekcbbalcaaOutSame
import Derived.Deep.Slices
import Derived.Lib.SmallJoins
namespace Go.Proofs.Ytcfedekcbbalcaa
open Go.RowKit Go.Lib

structure OpV where
  kind : Int
  la : Option Addr
  ll : Nat
  lc : Nat
  ss : List ByteArray
  n : Int
  c : Int
def OpGood (w : World) (x : OpV) : Prop := x.ll ≤ x.lc ∧ x.lc ≤ maxLen ∧ Strs (fun b => b < w.heap.size) w x.la x.ll x.ss ∧ (-9223372036854775808 ≤ x.kind ∧ x.kind ≤ 9223372036854775807) ∧ (-9223372036854775808 ≤ x.n ∧ x.n ≤ 9223372036854775807) ∧ (0 ≤ x.c ∧ x.c ≤ 255)
def OpCells (w : World) (b i : Nat) (x : OpV) : Prop := w.cell? ⟨b, i, none⟩ = some (.int .i64 x.kind) ∧ w.cell? ⟨b, i + 1, none⟩ = some (.slice x.la x.ll x.lc) ∧ w.cell? ⟨b, i + 2, none⟩ = some (.int .i64 x.n) ∧ w.cell? ⟨b, i + 3, none⟩ = some (.int .u8 x.c)
/-- operations that read as a list -/
def Ops (w : World) (a : Option Addr) (len : Nat) (L : List OpV) : Prop :=
  L.length = len ∧ (0 < len → ∃ b off, a = some ⟨b, off, none⟩ ∧ b < w.heap.size ∧ ∀ i x, L[i]? = some x → OpCells w b (off + i * 4) x ∧ OpGood w x)

instance opV_one : Inhabited OpV := ⟨⟨0, none, 0, 0, [], 0, 0⟩⟩
open Go.ChangeShapes Go.WideShapes Go.ChangeAt Go.Deep Go.Joins in
theorem open_ops {H : Type} {enc : TypeId × Value → H} {W : World} {a : Option Addr} {len cap : Nat} {d : DataW H} {p : List MemPlace}
    (h : DataW.Trod enc Try.prog W 0 (fun _ => true) true 22 (.slice a len cap) d p) : ∃ L, len ≤ cap ∧ cap ≤ maxLen ∧ Ops W a len L := by
  obtain ⟨fuel, hf⟩ := h
  rcases open_slice Try.underlying22 hf with ⟨hcs, _⟩ | ⟨x, l, c, m, n, D, Pl, hcs, _, hl, hm, hmm, _, hx⟩
  · simp [Value.cells] at hcs
    obtain ⟨rfl, rfl, rfl⟩ := hcs
    exact ⟨[], Nat.le_refl _, Nat.zero_le _, rfl, fun h => absurd h (by omega)⟩
  · simp [Value.cells] at hcs
    obtain ⟨rfl, rfl, rfl⟩ := hcs
    have hmm : m = cap := by simpa using hmm
    subst hmm
    have c4 : Try.prog.cellsOf 35 = 4 := by kernel_rfl
    have ci : Try.prog.cellsOf 3 = 1 := by kernel_rfl
    have cs : Try.prog.cellsOf 33 = 1 := by kernel_rfl
    have cb : Try.prog.cellsOf 5 = 1 := by kernel_rfl
    have each : ∀ i, i < len → ∃ q : OpV, (W.cell? (x.add (i * 4)) = some (.int .i64 q.kind) ∧ W.cell? (x.add (i * 4 + 1)) = some (.slice q.la q.ll q.lc) ∧ W.cell? (x.add (i * 4 + 2)) = some (.int .i64 q.n) ∧ W.cell? (x.add (i * 4 + 3)) = some (.int .u8 q.c)) ∧ OpGood W q := by
      intro i hi
      obtain ⟨cs', h1, h2⟩ := hx i (by omega)
      rw [c4] at h1
      obtain ⟨_, hlen, hcell⟩ := World.cells?_some h1
      obtain ⟨y0, y1, y2, y3, k, _, _, g0, g1, g2, g3⟩ := trod_struct4 Try.underlying35 h2
      match cs', hlen with
      | [v0, v1, v2, v3], _ =>
        simp [ci, cs, cb] at g0 g1 g2 g3
        have e0 := hcell 0 (by omega)
        have e1 := hcell 1 (by omega)
        have e2 := hcell 2 (by omega)
        have e3 := hcell 3 (by omega)
        rw [add_add] at e0 e1 e2 e3
        obtain ⟨n0, k0, _, w0⟩ := DataW.trod_int Try.underlying3 g0
        obtain ⟨n2, k2, _, w2⟩ := DataW.trod_int Try.underlying3 g2
        obtain ⟨n3, k3, _, w3⟩ := DataW.trod_int Try.underlying5 g3
        simp at k0 k2 k3
        subst k0 k2 k3
        obtain ⟨la, ll, lc, rfl⟩ : ∃ la ll lc, v1 = .slice la ll lc := by
          rcases DataW.trod_slice Try.underlying33 g1 with ⟨h0, _⟩ | ⟨a1, l1, c1, _, _, _, _, h0, _⟩
          · simp at h0
            exact ⟨none, 0, 0, h0⟩
          · simp at h0
            exact ⟨some a1, l1, c1, h0⟩
        obtain ⟨ss, ⟨q1, q2, _, q4⟩, _⟩ := open_slice_strs (d := y1.1) (p := y1.2) Try.underlying33 Try.underlying9 (by kernel_rfl) ⟨k, by simpa [Value.cells] using g1⟩
        exact ⟨⟨_, la, ll, lc, ss, _, _⟩, ⟨by simpa using e0, by simpa using e1, by simpa using e2, by simpa using e3⟩, q1, q2, q4, wf_i64 w0, wf_i64 w2, wf_u8 w3⟩
    obtain ⟨q, hq⟩ := choose_lt each
    refine ⟨(List.range len).map q, hl, hm, by simp, fun hp => ?_⟩
    obtain ⟨b, off, spot⟩ := x
    have h0 := (hq 0 hp).1.1
    have hspot : spot = none := by simpa [Addr.add] using World.cell?_spot h0
    subst hspot
    rw [Addr.add_lit] at h0
    refine ⟨b, off, rfl, cell_lt h0, fun i x hx => ?_⟩
    have hi : i < len := by
      have := (List.getElem?_eq_some_iff.1 hx).1
      simpa using this
    obtain rfl : q i = x := by simpa [hi] using hx
    have h1 := hq i hi
    simp only [Addr.add_lit, ← Nat.add_assoc] at h1
    exact h1
def FewOp (x : OpV) : Prop := x.ll ≤ 20 ∧ ¬(x.kind = 1 ∧ 300 < x.n ∧ x.n ≤ 1073741824) ∧ ∀ p, p < x.ll → (x.ss.getD p ByteArray.empty).size ≤ 200
def FewAll (L : List OpV) (k : Nat) : Prop := ∀ (j : Nat) (x : OpV), j < k → L[j]? = some x → FewOp x
theorem few_more {L : List OpV} {k : Nat} {x : OpV} (h : FewAll L k) (hx : L[k]? = some x) (h1 : FewOp x) : FewAll L (k + 1) := fun j y hj hy => by
  by_cases e : j = k
  · subst e
    rw [hx] at hy
    cases hy
    exact h1
  · exact h j y (by omega) hy
def FewR (L : List OpV) (len : Nat) (w : World) (e : Ending) (w' : World) : Prop := (∃ f : Bool, e = .returned (.bool f) ∧ (f = true → len ≤ 40 ∧ FewAll L len)) ∧ w = w'
theorem few_not (L : List OpV) (len : Nat) (w : World) : FewR L len w (.returned (.bool false)) w := ⟨⟨false, rfl, fun h => by cases h⟩, rfl⟩
set_option maxHeartbeats 4000000 in
set_option maxRecDepth 100000 in
theorem few_calls {w : World} {a : Option Addr} {len cap : Nat} {L : List OpV} (h : Ops w a len L) (hl : len ≤ cap) (hcap : cap ≤ maxLen) :
    Calls Try.prog 8 #[.slice a len cap] w (FewR L len w) := by
  have hmax : cap ≤ 9223372036854775807 := hcap
  have H := hidden h
  clear h hcap
  go_enter Try.func8, Try.ntmps8
  go_wp2
  go_loop [3] (fun i => ∃ k : Nat, k ≤ len ∧ i = .int .i64 k ∧ FewAll L k) (fun i => len - (intOf i).toNat)
  case atStart => exact ⟨0, by omega, rfl, fun j x hj => by omega⟩
  case round =>
    obtain ⟨k, hk, rfl, hf⟩ := hrel
    have HF := hidden hf
    clear hf
    by_cases hlt : k < len
    · have hlk : decide ((k : Int) < len) = true := by simp; omega
      obtain ⟨b, off, rfl, _, hc⟩ := H.out.2 (by omega)
      obtain ⟨x, hx⟩ : ∃ x, L[k]? = some x := ⟨_, List.getElem?_eq_getElem (by rw [H.out.1]; exact hlt)⟩
      obtain ⟨⟨c0, c1, c2, c3⟩, g1, g2, g3, _⟩ := hc k x hx
      have HX := hidden hx
      clear hc hx
      obtain ⟨kind, la, ll, lc, ss, n, c⟩ := x
      simp only at c0 c1 c2 c3 g1 g2 g3
      have g2' : lc ≤ 9223372036854775807 := g2
      have G3 := hidden g3
      clear g2 g3
      by_cases q1 : 20 < ll
      · have d1 : decide ((20 : Int) < ll) = true := decide_eq_true (by omega)
        go_wp2
        go_ret
        exact few_not _ _ _
      · have d1 : decide ((20 : Int) < ll) = false := decide_eq_false (by omega)
        by_cases q2 : kind = 1 ∧ 300 < n ∧ n ≤ 1073741824
        · have d2 : (kind == 1) = true := by simp [q2.1]
          have d3 : decide (300 < n) = true := decide_eq_true q2.2.1
          have d4 : decide (n ≤ 1073741824) = true := decide_eq_true q2.2.2
          clear q2
          go_wp2
          go_ret
          exact few_not _ _ _
        · have Q2 := hidden q2
          have q5 : (kind == 1) = false ∨ ((kind == 1) = true ∧ decide (300 < n) = false) ∨ ((kind == 1) = true ∧ decide (300 < n) = true ∧ decide (n ≤ 1073741824) = false) := by
            by_cases q3 : kind = 1
            · by_cases q4 : 300 < n
              · exact .inr (.inr ⟨by simp [q3], decide_eq_true q4, decide_eq_false fun h => q2 ⟨q3, q4, h⟩⟩)
              · exact .inr (.inl ⟨by simp [q3], decide_eq_false q4⟩)
            · exact .inl (by simp [q3])
          rcases q5 with d2 | ⟨d2, d3⟩ | ⟨d2, d3, d4⟩
          all_goals
            clear q2
            go_wp2
            go_loop [4] (fun j => ∃ m : Nat, m ≤ ll ∧ j = .int .i64 m ∧ ∀ p, p < m → (ss.getD p ByteArray.empty).size ≤ 200) (fun j => ll - (intOf j).toNat)
            case atStart => exact ⟨0, by omega, rfl, fun p hp => by omega⟩
            case round =>
              obtain ⟨m, hm, rfl, hp⟩ := hrel
              have HP := hidden hp
              clear hp
              by_cases hlm : m < ll
              · have hlk2 : decide ((m : Int) < ll) = true := by simp; omega
                obtain ⟨b2, off2, rfl, _, hc2⟩ := G3.out.2 (by omega)
                have hcm := hc2 m hlm
                clear hc2
                obtain ⟨t, ht⟩ : ∃ t, t = ss.getD m ByteArray.empty := ⟨_, rfl⟩
                rw [← ht] at hcm
                have HT := hidden ht
                clear ht
                by_cases q6 : 200 < t.size
                · have d6 : decide ((200 : Int) < t.size) = true := decide_eq_true (by omega)
                  go_wp2
                  go_ret
                  exact few_not _ _ _
                · have d6 : decide ((200 : Int) < t.size) = false := decide_eq_false (by omega)
                  go_wp2
                  refine ⟨⟨m + 1, by omega, by go_num, fun p hp => ?_⟩, by simp [intOf]; omega⟩
                  by_cases e : p = m
                  · subst e
                    rw [← HT.out]
                    omega
                  · exact HP.out p (by omega)
              · have hlk2 : decide ((m : Int) < ll) = false := by simp; omega
                go_wp2
                refine ⟨⟨k + 1, by omega, by go_num, few_more HF.out HX.out ⟨by show ll ≤ 20; omega, Q2.out, fun p hp => HP.out p (by show p < m; have hp : p < ll := hp; omega)⟩⟩, by simp [intOf]; omega⟩
    · have hlk : decide ((k : Int) < len) = false := by simp; omega
      go_wp2
      go_ret
      refine ⟨⟨decide ((len : Int) ≤ 40), rfl, fun h => ?_⟩, rfl⟩
      have h1 := of_decide_eq_true h
      obtain rfl : k = len := by omega
      exact ⟨by omega, HF.out⟩
end Go.Proofs.Ytcfedekcbbalcaa
