/- TxtMach, TxtSettle, TxtShow, TxtSign, put together. -/
import Derived.Test.YthiiinbkkjacbaaDoorRt07
import Derived.Test.YthiiinbkkjacbaaDoorRt08
import Derived.Test.YthiiinbkkjacbaaDoorRt06
/- The reader's loop as steps of the machine: what stays, what it comes to. Of no program. -/
namespace Go.Proofs.YthiiinbkkjacbaaDoor

theorem settle_fit (k : Int) (x : Bld) : (settle k x).st.length ≤ x.st.length + 1 ∧ (settle k x).wt.length ≤ x.wt.length ∧ (settle k x).hp = x.hp := by
  unfold settle
  split
  · exact ⟨by omega, by omega, rfl⟩
  · rename_i y r e
    split
    · simp [e]
    · exact ⟨by omega, by omega, rfl⟩
theorem emp_fit (x : Bld) : (bEmp x).st.length ≤ x.st.length + 1 ∧ (bEmp x).wt = x.wt ∧ (bEmp x).hp = x.hp := by
  unfold bEmp
  split
  · exact ⟨by omega, rfl, rfl⟩
  · rename_i h
    exact ⟨by simp, rfl, by simpa using h⟩
theorem end_fit (x : Bld) : (bEnd x).st.length ≤ x.st.length + 3 ∧ (bEnd x).wt.length ≤ x.wt.length ∧ (bEnd x).hp = x.hp := by
  have h1 := emp_fit x
  have h2 := settle_fit 3 (bEmp x)
  have h3 := settle_fit 4 (settle 3 (bEmp x))
  unfold bEnd
  refine ⟨by omega, ?_, ?_⟩
  · have := h1.2.1
    rw [this] at h2
    omega
  · rw [h3.2.2, h2.2.2, h1.2.2]
theorem begin_fit (x : Bld) : (bBegin x).st.length ≤ x.st.length + 1 ∧ (bBegin x).wt.length ≤ x.wt.length + 1 ∧ (bBegin x).hp = x.hp := by
  have h2 := settle_fit 3 x
  unfold bBegin
  split
  · rename_i h
    exact ⟨by simp only; omega, by simp only [List.length_cons]; omega, h.symm⟩
  · exact ⟨by omega, by omega, rfl⟩
def hb (p : Bool) : Nat := if p = true then 1 else 0
theorem begin_fit2 (x : Bld) : (bBegin x).wt.length ≤ x.wt.length + hb x.hp := by
  have h2 := settle_fit 3 x
  unfold bBegin hb
  split
  · simp only [List.length_cons]; omega
  · omega
theorem stepM_some {l : List UInt8} {x y : Bld} {m : Nat} (h : stepM l x = (some y, m)) : 1 ≤ m ∧ m ≤ l.length ∧ y.wt.length + hb y.hp ≤ x.wt.length + hb x.hp + 1 ∧ y.st.length ≤ x.st.length + 4 := by
  match l with
  | [] => simp [stepM] at h
  | c :: r =>
    have hb1 := begin_fit x
    have hb2 := begin_fit2 x
    have he := end_fit x
    have hh : hb x.hp ≤ 1 := by unfold hb; split <;> omega
    have ht : hb true = 1 := rfl
    have hf : hb false = 0 := rfl
    simp only [stepM] at h
    split at h
    · split at h
      · rename_i hp
        simp only [Prod.mk.injEq, Option.some.injEq] at h
        obtain ⟨rfl, rfl⟩ := h
        exact ⟨Nat.le_refl _, by simp, by simp only [ht]; rw [hp] at hh ⊢; simp only [ht]; omega, by simp⟩
      · simp at h
    split at h
    · simp only [Prod.mk.injEq, Option.some.injEq] at h
      obtain ⟨rfl, rfl⟩ := h
      refine ⟨Nat.le_refl _, by simp, ?_, ?_⟩
      · simp only [bOpen, List.length_cons, hf]; omega
      · simp only [bOpen]; omega
    split at h
    · split at h
      · simp at h
      · rename_i z hz
        simp only [Prod.mk.injEq, Option.some.injEq] at h
        obtain ⟨rfl, rfl⟩ := h
        unfold bClose at hz
        split at hz
        · cases hz
        · rename_i a b e
          split at hz
          · cases hz
            rw [e] at he
            simp only [List.length_cons] at he
            exact ⟨Nat.le_refl _, by simp, by simp only [ht]; omega, by simp only; omega⟩
          · cases hz
    split at h
    · simp only [Prod.mk.injEq, Option.some.injEq] at h
      obtain ⟨rfl, rfl⟩ := h
      refine ⟨Nat.le_refl _, by simp, ?_, ?_⟩
      · simp only [bSplit, List.length_cons, hf]; omega
      · simp only [bSplit]; omega
    split at h
    · rename_i ho
      have hs := rdSet_fit (c :: r)
      simp only [Prod.mk.injEq, Option.some.injEq] at h
      obtain ⟨rfl, rfl⟩ := h
      refine ⟨(hs.2 ho).1, hs.1, ?_, ?_⟩
      · simp only [bAtom, ht]; omega
      · simp only [bAtom, List.length_append, List.length_cons, List.length_nil]; omega
    · simp at h
theorem stepM_none {l : List UInt8} {x : Bld} {m : Nat} (h : stepM l x = (none, m)) : m ≤ l.length := by
  match l with
  | [] => simp [stepM] at h; omega
  | c :: r =>
    simp only [stepM] at h
    split at h
    · split at h
      · simp at h
      · simp at h; omega
    split at h
    · simp at h
    split at h
    · split at h
      · simp at h; omega
      · simp at h
    split at h
    · simp at h
    split at h
    · simp at h
    · have hs := rdSet_fit (c :: r)
      simp only [Prod.mk.injEq, true_and] at h
      omega
/-- the loop at a place: the machine goes on to what it comes to -/
structure At (L : List UInt8) (r : Option Bld × Nat) (k : Nat) (x : Bld) : Prop where
  run : ∃ n q, L.length < n + k ∧ runM n (L.drop k) x = (r.1, q) ∧ (r.1 = none → k + q = r.2)
  wt : x.wt.length + hb x.hp ≤ k
  st : x.st.length ≤ 4 * k
  le : k ≤ L.length
theorem at_start (L : List UInt8) : At L (runM (L.length + 1) L b0) 0 b0 :=
  ⟨⟨L.length + 1, (runM (L.length + 1) L b0).2, by omega, rfl, fun _ => by omega⟩, by simp [b0, hb], by simp [b0], Nat.zero_le _⟩
theorem At.step {L : List UInt8} {r : Option Bld × Nat} {k : Nat} {x y : Bld} {m : Nat} {c : UInt8} {t : List UInt8} (h : At L r k x) (hd : L.drop k = c :: t) (hs : stepM (c :: t) x = (some y, m)) : At L r (k + m) y := by
  obtain ⟨⟨n, q, h1, h2, h3⟩, hw, hst, hle⟩ := h
  obtain ⟨f1, f2, f3, f4⟩ := stepM_some hs
  rw [← hd, List.length_drop] at f2
  obtain ⟨n, rfl⟩ : ∃ j, n = j + 1 := ⟨n - 1, by omega⟩
  rw [hd] at h2
  simp only [runM, hs] at h2
  rw [← hd, List.drop_drop] at h2
  simp only [Prod.mk.injEq] at h2
  refine ⟨⟨n, (runM n (L.drop (k + m)) y).2, by omega, ?_, fun e => ?_⟩, by omega, by omega, by omega⟩
  · rw [← h2.1]
  · have := h3 e
    omega
theorem At.fail {L : List UInt8} {r : Option Bld × Nat} {k : Nat} {x : Bld} {m : Nat} {c : UInt8} {t : List UInt8} (h : At L r k x) (hd : L.drop k = c :: t) (hs : stepM (c :: t) x = (none, m)) : r = (none, k + m) ∧ k + m ≤ L.length := by
  obtain ⟨⟨n, q, h1, h2, h3⟩, hw, hst, hle⟩ := h
  have f2 := stepM_none hs
  rw [← hd, List.length_drop] at f2
  have hl : k < L.length := by
    rcases Nat.lt_or_ge k L.length with g | g
    · exact g
    · rw [List.drop_eq_nil_of_le g] at hd
      cases hd
  obtain ⟨n, rfl⟩ : ∃ j, n = j + 1 := ⟨n - 1, by omega⟩
  rw [hd] at h2
  simp only [runM, hs, Prod.mk.injEq] at h2
  obtain ⟨h4, rfl⟩ := h2
  refine ⟨?_, by omega⟩
  rw [h3 h4.symm]
  exact Prod.ext h4.symm rfl
theorem At.done {L : List UInt8} {r : Option Bld × Nat} {k : Nat} {x : Bld} (h : At L r k x) (hd : L.drop k = []) : r.1 = some x := by
  obtain ⟨⟨n, q, h1, h2, h3⟩, hw, hst, hle⟩ := h
  obtain ⟨n, rfl⟩ : ∃ j, n = j + 1 := ⟨n - 1, by omega⟩
  rw [hd] at h2
  simp only [runM, Prod.mk.injEq] at h2
  exact h2.1.symm
theorem readV_none {L : List UInt8} {q : Nat} (h : runM (L.length + 1) L b0 = (none, q)) : readV L = (none, q) := by
  unfold readV
  rw [h]
theorem readV_some {L : List UInt8} {x : Bld} (h : (runM (L.length + 1) L b0).1 = some x) : readV L = fin x L.length := by
  unfold readV
  split
  · rename_i k e
    rw [e] at h
    cases h
  · rename_i b k e
    rw [e] at h
    obtain rfl := Option.some.inj h
    rfl
end Go.Proofs.YthiiinbkkjacbaaDoor

/- Contracts of the builder's methods: release, settle, and what is made of them. -/
namespace Go.Proofs.YthiiinbkkjacbaaDoor
open Go.RowKit Go.Lib Go.Joins

/-- the last that waits, as it lies -/
theorem BldAt.top {w : World} {R b : Nat} {st : List Stp} {k : Int} {r : List Int} {hp : Bool} {v : Value} (h : BldAt w R b ⟨st, k :: r, hp⟩ v) : w.cell? ⟨R, r.length, none⟩ = some (.int .i64 k) := by
  obtain ⟨cur, a1, a2, a3⟩ := h.arr
  simp only [List.length_cons] at a3
  rw [cell_of_row w R _ _ _ _ a1]
  have e := congrArg (fun l => l[r.length]?) a3
  rw [waits8_cons, List.getElem?_append_right (by rw [waits8_len]; exact Nat.le_refl _), waits8_len, Nat.sub_self] at e
  simp only [List.getElem?_take, Nat.lt_succ_self, if_true, List.getElem?_cons_zero] at e
  simpa using e
set_option maxHeartbeats 2000000 in
set_option maxRecDepth 100000 in
theorem release_none {w : World} {R b : Nat} {st : List Stp} {hp : Bool} {v : Value} (h : BldAt w R b ⟨st, [], hp⟩ v) (k : Int) :
    Calls Tryd.prog 73 #[.pointer (some ⟨b, 0, none⟩), .int .i64 k] w fun e w' => e = .returned (.bool false) ∧ w = w' := by
  obtain ⟨⟨c0, c1, c2⟩, f0, f1, f2⟩ := h.cells
  simp only [List.length_nil] at c1
  clear h
  go_enter Tryd.func73, Tryd.ntmps73
  go_wp2
  go_ret
  exact ⟨rfl, rfl⟩
set_option maxHeartbeats 2000000 in
set_option maxRecDepth 100000 in
theorem release_other {w : World} {R b : Nat} {st : List Stp} {x : Int} {r : List Int} {hp : Bool} {v : Value} (h : BldAt w R b ⟨st, x :: r, hp⟩ v) (k : Int) (hk : x ≠ k) :
    Calls Tryd.prog 73 #[.pointer (some ⟨b, 0, none⟩), .int .i64 k] w fun e w' => e = .returned (.bool false) ∧ w = w' := by
  obtain ⟨⟨c0, c1, c2⟩, f0, f1, f2⟩ := h.cells
  have ht := h.top
  have hle := h.le
  simp only [List.length_cons] at c1 hle
  generalize r.length = n at *
  have hq : (x != k) = true := by simpa using hk
  have hd : decide ((n : Int) < 0) = false := decide_eq_false (by omega)
  have hw : ((n + 1 : Nat) : Int) - 1 = n := by omega
  clear h hk
  go_enter Tryd.func73, Tryd.ntmps73
  go_wp2
  go_ret
  exact ⟨rfl, rfl⟩
set_option maxHeartbeats 2000000 in
set_option maxRecDepth 100000 in
theorem release_yes {w : World} {R b : Nat} {st : List Stp} {k : Int} {r : List Int} {hp : Bool} {v : Value} (h : BldAt w R b ⟨st, k :: r, hp⟩ v) :
    Calls Tryd.prog 73 #[.pointer (some ⟨b, 0, none⟩), .int .i64 k] w fun e w' => e = .returned (.bool true) ∧ Turn R b w ⟨st, r, hp⟩ w' := by
  have HF := hidden h.fewer
  obtain ⟨⟨c0, c1, c2⟩, f0, f1, f2⟩ := h.cells
  have ht := h.top
  have hle := h.le
  simp only [List.length_cons] at c1 hle
  generalize r.length = n at *
  have hq : (k != k) = false := by simp
  have hd : decide ((n : Int) < 0) = false := decide_eq_false (by omega)
  have hw : ((n + 1 : Nat) : Int) - 1 = n := by omega
  clear h
  go_enter Tryd.func73, Tryd.ntmps73
  go_wp2
  go_ret
  exact ⟨rfl, HF.out⟩

set_option maxHeartbeats 2000000 in
set_option maxRecDepth 100000 in
theorem settle_calls {w : World} {R b : Nat} {x : Bld} {v : Value} (h : BldAt w R b x v) (k : Int) (hl : x.st.length < 900000) :
    Calls Tryd.prog 71 #[.pointer (some ⟨b, 0, none⟩), .int .i64 k] w fun e w' => e = .returned (.tuple #[]) ∧ Turn R b w (settle k x) w' := by
  obtain ⟨st, wt, hp⟩ := x
  match wt with
  | [] =>
    have HR := hidden (release_none h k)
    have HT := hidden (show Turn R b w (settle k ⟨st, [], hp⟩) w from ⟨⟨v, h⟩, Keep.refl _ _ _⟩)
    clear h
    go_enter Tryd.func71, Tryd.ntmps71
    go_wp2_with fail
    refine HR.out.mono ?_
    rintro e w1 ⟨rfl, rfl⟩
    go_wp2
    go_end0
    exact ⟨rfl, HT.out⟩
  | y :: r =>
    by_cases hk : y = k
    · subst hk
      have HR := hidden (release_yes h)
      have HE := hidden (settle_yes (k := y) (st := st) (r := r) (hp := hp))
      clear h
      go_enter Tryd.func71, Tryd.ntmps71
      go_wp2_with fail
      refine HR.out.mono ?_
      rintro e w1 ⟨rfl, ht⟩
      obtain ⟨⟨v1, h1⟩, hk1⟩ := ht
      have HP := hidden (put_calls h1 (kStp y) hl)
      have HK := hidden hk1
      clear h1 hk1
      go_wp2_with fail
      refine HP.out.mono ?_
      rintro e w2 ⟨rfl, ht⟩
      have HT := hidden (Turn.after HK.out ht)
      clear ht
      go_wp2
      go_end0
      rw [HE.out]
      exact ⟨rfl, HT.out⟩
    · have HR := hidden (release_other h k hk)
      have he : settle k ⟨st, y :: r, hp⟩ = ⟨st, y :: r, hp⟩ := settle_no (by rintro a b e; cases e; exact hk)
      have HT := hidden (show Turn R b w (settle k ⟨st, y :: r, hp⟩) w from by rw [he]; exact ⟨⟨v, h⟩, Keep.refl _ _ _⟩)
      clear h he hk
      go_enter Tryd.func71, Tryd.ntmps71
      go_wp2_with fail
      refine HR.out.mono ?_
      rintro e w1 ⟨rfl, rfl⟩
      go_wp2
      go_end0
      exact ⟨rfl, HT.out⟩
set_option maxHeartbeats 2000000 in
set_option maxRecDepth 100000 in
theorem begin_calls {w : World} {R b : Nat} {x : Bld} {v : Value} (h : BldAt w R b x v) (hl : x.st.length < 800000) (hw : x.hp = true → x.wt.length < 4096) :
    Calls Tryd.prog 55 #[.pointer (some ⟨b, 0, none⟩)] w fun e w' => e = .returned (.tuple #[]) ∧ Turn R b w (bBegin x) w' := by
  obtain ⟨⟨c0, c1, c2⟩, f0, f1, f2⟩ := h.cells
  have hS := settle_fit 3 x
  cases hp : x.hp
  · rw [hp] at c2
    have HT := hidden (show Turn R b w (bBegin x) w from by rw [begin_new hp]; exact ⟨⟨v, h⟩, Keep.refl _ _ _⟩)
    clear h c0 c1 f0 f1 f2 hS hw hp
    go_enter Tryd.func55, Tryd.ntmps55
    go_wp2
    go_end0
    exact ⟨rfl, HT.out⟩
  · rw [hp] at c2
    have hwt := hw hp
    have HS := hidden (settle_calls h 3 (by omega))
    have HE := hidden (show bBegin x = ⟨(settle 3 x).st, 3 :: (settle 3 x).wt, true⟩ by unfold bBegin; rw [if_pos hp])
    have HF := hidden hS
    have HP := hidden (hS.2.2.trans hp)
    clear h c0 c1 f0 f1 f2 hS hw hp
    go_enter Tryd.func55, Tryd.ntmps55
    go_wp2_with fail
    refine HS.out.mono ?_
    rintro e w1 ⟨rfl, ht⟩
    obtain ⟨⟨v1, h1⟩, hk1⟩ := ht
    have HW := hidden (wait_calls h1 3 (by have := HF.out.2.1; omega))
    have HK := hidden hk1
    clear h1 hk1
    go_wp2_with fail
    refine HW.out.mono ?_
    rintro e w2 ⟨rfl, ht⟩
    have HT := hidden (Turn.after HK.out ht)
    rw [HP.out] at HT
    clear ht
    go_wp2
    go_end0
    rw [HE.out]
    exact ⟨rfl, HT.out⟩
set_option maxHeartbeats 2000000 in
set_option maxRecDepth 100000 in
theorem end_calls {w : World} {R b : Nat} {x : Bld} {v : Value} (h : BldAt w R b x v) (hl : x.st.length < 800000) :
    Calls Tryd.prog 63 #[.pointer (some ⟨b, 0, none⟩)] w fun e w' => e = .returned (.tuple #[]) ∧ Turn R b w (bEnd x) w' := by
  obtain ⟨⟨c0, c1, c2⟩, f0, f1, f2⟩ := h.cells
  have h1 := emp_fit x
  have h2 := settle_fit 3 (bEmp x)
  have HL := hidden (show (bEmp x).st.length < 900000 by omega)
  have HL2 := hidden (show (settle 3 (bEmp x)).st.length < 900000 by omega)
  have HE := hidden (show bEnd x = settle 4 (settle 3 (bEmp x)) from rfl)
  cases hp : x.hp
  · rw [hp] at c2
    have HP := hidden (put_calls h (kStp 2) (by omega))
    have HM := hidden (show bEmp x = ⟨x.st ++ [kStp 2], x.wt, x.hp⟩ by unfold bEmp; rw [if_neg (by rw [hp]; simp), hp])
    clear h c0 c1 f0 f1 f2 h1 h2 hp
    go_enter Tryd.func63, Tryd.ntmps63
    go_wp2_with fail
    refine HP.out.mono ?_
    rintro e w1 ⟨rfl, ht⟩
    rw [← HM.out] at ht
    obtain ⟨⟨v1, h1⟩, hk1⟩ := ht
    have HS := hidden (settle_calls h1 3 HL.out)
    have HK := hidden hk1
    clear h1 hk1
    go_wp2_with fail
    refine HS.out.mono ?_
    rintro e w2 ⟨rfl, ht⟩
    obtain ⟨⟨v2, h2⟩, hk2⟩ := ht
    have HS2 := hidden (settle_calls h2 4 HL2.out)
    have HK2 := hidden (HK.out.trans hk2)
    clear h2 hk2
    go_wp2_with fail
    refine HS2.out.mono ?_
    rintro e w3 ⟨rfl, ht⟩
    have HT := hidden (Turn.after HK2.out ht)
    clear ht
    go_wp2
    go_end0
    rw [HE.out]
    exact ⟨rfl, HT.out⟩
  · rw [hp] at c2
    have HM := hidden (show bEmp x = x by unfold bEmp; rw [if_pos hp])
    rw [HM.out] at HL HL2 HE
    have HS := hidden (settle_calls h 3 HL.out)
    clear h c0 c1 f0 f1 f2 h1 h2 hp
    go_enter Tryd.func63, Tryd.ntmps63
    go_wp2_with fail
    refine HS.out.mono ?_
    rintro e w2 ⟨rfl, ht⟩
    obtain ⟨⟨v2, h2⟩, hk2⟩ := ht
    have HS2 := hidden (settle_calls h2 4 HL2.out)
    have HK2 := hidden hk2
    clear h2 hk2
    go_wp2_with fail
    refine HS2.out.mono ?_
    rintro e w3 ⟨rfl, ht⟩
    have HT := hidden (Turn.after HK2.out ht)
    clear ht
    go_wp2
    go_end0
    rw [HE.out]
    exact ⟨rfl, HT.out⟩
set_option maxHeartbeats 2000000 in
set_option maxRecDepth 100000 in
theorem split_calls {w : World} {R b : Nat} {x : Bld} {v : Value} (h : BldAt w R b x v) (hl : x.st.length < 800000) (hw : x.wt.length < 4096) :
    Calls Tryd.prog 61 #[.pointer (some ⟨b, 0, none⟩)] w fun e w' => e = .returned (.tuple #[]) ∧ Turn R b w (bSplit x) w' := by
  have HE := hidden (end_calls h hl)
  have HF := hidden (end_fit x)
  clear h
  go_enter Tryd.func61, Tryd.ntmps61
  go_wp2_with fail
  refine HE.out.mono ?_
  rintro e w1 ⟨rfl, ht⟩
  obtain ⟨⟨v1, h1⟩, hk1⟩ := ht
  have HW := hidden (wait_calls h1 4 (by have := HF.out.2.1; omega))
  have HK := hidden hk1
  clear h1 hk1
  go_wp2_with fail
  refine HW.out.mono ?_
  rintro e w2 ⟨rfl, ht⟩
  obtain ⟨⟨v2, h2⟩, hk2⟩ := ht
  have HK2 := hidden (HK.out.trans hk2)
  obtain ⟨⟨c0, c1, c2⟩, f0, f1, f2⟩ := h2.cells
  have HT := hidden (Turn.after HK2.out (h2.flag false))
  clear h2 hk2
  go_wp2
  go_end0
  exact ⟨rfl, HT.out⟩
set_option maxHeartbeats 2000000 in
set_option maxRecDepth 100000 in
theorem open_calls {w : World} {R b : Nat} {x : Bld} {v : Value} (h : BldAt w R b x v) (hl : x.st.length < 800000) (hw : x.wt.length + 1 < 4096 ∨ x.hp = false ∧ x.wt.length < 4096) :
    Calls Tryd.prog 59 #[.pointer (some ⟨b, 0, none⟩)] w fun e w' => e = .returned (.tuple #[]) ∧ Turn R b w (bOpen x) w' := by
  have HE := hidden (begin_calls h hl (fun e => hw.elim (fun h => by omega) (fun h => by rw [h.1] at e; cases e)))
  have HF := hidden (show (bBegin x).wt.length < 4096 by
    rcases hw with h | h
    · have := (begin_fit x).2.1
      omega
    · rw [begin_new h.1]
      exact h.2)
  clear h hw
  go_enter Tryd.func59, Tryd.ntmps59
  go_wp2_with fail
  refine HE.out.mono ?_
  rintro e w1 ⟨rfl, ht⟩
  obtain ⟨⟨v1, h1⟩, hk1⟩ := ht
  have HW := hidden (wait_calls h1 0 HF.out)
  have HK := hidden hk1
  clear h1 hk1
  go_wp2_with fail
  refine HW.out.mono ?_
  rintro e w2 ⟨rfl, ht⟩
  obtain ⟨⟨v2, h2⟩, hk2⟩ := ht
  have HK2 := hidden (HK.out.trans hk2)
  obtain ⟨⟨c0, c1, c2⟩, f0, f1, f2⟩ := h2.cells
  have HT := hidden (Turn.after HK2.out (h2.flag false))
  clear h2 hk2
  go_wp2
  go_end0
  exact ⟨rfl, HT.out⟩
/-- what close leaves: the builder of before, and whether a parenthesis was open -/
def Closed (R b : Nat) (w : World) (x : Bld) (e : Ending) (w' : World) : Prop := (∃ y, bClose x = some y ∧ e = .returned (.bool true) ∧ Turn R b w y w') ∨ (bClose x = none ∧ e = .returned (.bool false) ∧ Keep R b w w')
set_option maxHeartbeats 2000000 in
set_option maxRecDepth 100000 in
theorem close_calls {w : World} {R b : Nat} {x : Bld} {v : Value} (h : BldAt w R b x v) (hl : x.st.length < 800000) :
    Calls Tryd.prog 60 #[.pointer (some ⟨b, 0, none⟩)] w fun e w' => Closed R b w x e w' := by
  have HE := hidden (end_calls h hl)
  have HX := hidden (show bClose x = match (bEnd x).wt with | [] => none | y :: r => if y = 0 then some ⟨(bEnd x).st, r, true⟩ else none from rfl)
  clear h
  go_enter Tryd.func60, Tryd.ntmps60
  go_wp2_with fail
  refine HE.out.mono ?_
  rintro e w1 ⟨rfl, ht⟩
  obtain ⟨⟨v1, h1⟩, hk1⟩ := ht
  obtain ⟨⟨c0, c1, c2⟩, f0, f1, f2⟩ := h1.cells
  have hT := Turn.after hk1 (h1.flag true)
  generalize hy : bEnd x = y at *
  obtain ⟨st, wt, hp⟩ := y
  simp only at hT HX c1 c2
  clear h1 hk1 hy
  match wt with
  | [] =>
    obtain ⟨⟨v2, h2⟩, hk2⟩ := hT
    have HR := hidden (release_none h2 0)
    have HK2 := hidden hk2
    clear h2 hk2
    go_wp2_with fail
    refine HR.out.mono ?_
    rintro e w2 ⟨rfl, rfl⟩
    go_wp2
    go_ret
    exact .inr ⟨HX.out, rfl, HK2.out⟩
  | y :: r =>
    by_cases hy : y = 0
    · subst hy
      obtain ⟨⟨v2, h2⟩, hk2⟩ := hT
      have HR := hidden (release_yes h2)
      have HK2 := hidden hk2
      have HY := hidden (show bClose x = some ⟨st, r, true⟩ by rw [HX.out]; simp)
      clear h2 hk2 HX
      go_wp2_with fail
      refine HR.out.mono ?_
      rintro e w2 ⟨rfl, ht⟩
      have HT := hidden (Turn.after HK2.out ht)
      clear ht
      go_wp2
      go_ret
      exact .inl ⟨_, HY.out, rfl, HT.out⟩
    · obtain ⟨⟨v2, h2⟩, hk2⟩ := hT
      have HR := hidden (release_other h2 0 hy)
      have HK2 := hidden hk2
      have HY := hidden (show bClose x = none by rw [HX.out]; simp [hy])
      clear h2 hk2 HX hy
      go_wp2_with fail
      refine HR.out.mono ?_
      rintro e w2 ⟨rfl, rfl⟩
      go_wp2
      go_ret
      exact .inr ⟨HY.out, rfl, HK2.out⟩
set_option maxHeartbeats 2000000 in
set_option maxRecDepth 100000 in
theorem repeat_yes {w : World} {R b : Nat} {x : Bld} {v : Value} (h : BldAt w R b x v) (k : Int) (hl : x.st.length < 800000) (hp : x.hp = true) :
    Calls Tryd.prog 58 #[.pointer (some ⟨b, 0, none⟩), .int .i64 k] w fun e w' => e = .returned (.bool true) ∧ Turn R b w ⟨x.st ++ [kStp k], x.wt, true⟩ w' := by
  obtain ⟨⟨c0, c1, c2⟩, f0, f1, f2⟩ := h.cells
  have HP := hidden (put_calls h (kStp k) (by omega))
  rw [hp] at c2 HP
  clear h c0 c1 f0 f1 f2
  go_enter Tryd.func58, Tryd.ntmps58
  go_wp2_with fail
  refine HP.out.mono ?_
  rintro e w1 ⟨rfl, ht⟩
  have HT := hidden ht
  obtain ⟨⟨v1, h1⟩, hk1⟩ := ht
  obtain ⟨⟨d0, d1, d2⟩, g0, g1, g2⟩ := h1.cells
  clear h1 hk1 c2
  go_wp2
  go_ret
  exact ⟨rfl, HT.out⟩
set_option maxHeartbeats 2000000 in
set_option maxRecDepth 100000 in
theorem repeat_no {w : World} {R b : Nat} {x : Bld} {v : Value} (h : BldAt w R b x v) (k : Int) (hp : x.hp = false) :
    Calls Tryd.prog 58 #[.pointer (some ⟨b, 0, none⟩), .int .i64 k] w fun e w' => e = .returned (.bool false) ∧ w = w' := by
  obtain ⟨⟨c0, c1, c2⟩, f0, f1, f2⟩ := h.cells
  rw [hp] at c2
  clear h c0 c1 f0 f1 f2
  go_enter Tryd.func58, Tryd.ntmps58
  go_wp2
  go_ret
  exact ⟨rfl, rfl⟩
end Go.Proofs.YthiiinbkkjacbaaDoor

/- Contracts: the program's bytes as they are printed (visible, alphanumeric, showChar, showMember). -/
namespace Go.Proofs.YthiiinbkkjacbaaDoor
open Go.RowKit

theorem visible_calls (n : Nat) (w : World) : Calls Tryd.prog 37 #[.int .u8 n] w fun e w' => e = .returned (.bool (vis n)) ∧ w = w' := by
  have hv : vis n = (decide (32 < n) && decide (n ≤ 126)) := rfl
  have HV := hidden hv
  clear hv
  by_cases h1 : 32 < n
  · have d1 : decide ((32 : Int) < n) = true := decide_eq_true (by omega)
    rw [decide_eq_true h1, Bool.true_and] at HV
    go_enter Tryd.func37, Tryd.ntmps37
    go_wp2
    go_ret
    refine ⟨ret_b ?_, rfl⟩
    rw [HV.out]
    simp
    omega
  · have d1 : decide ((32 : Int) < n) = false := decide_eq_false (by omega)
    rw [decide_eq_false h1, Bool.false_and] at HV
    go_enter Tryd.func37, Tryd.ntmps37
    go_wp2
    go_ret
    exact ⟨ret_b HV.out.symm, rfl⟩
theorem alnum_calls (n : Nat) (w : World) : Calls Tryd.prog 83 #[.int .u8 n] w fun e w' => e = .returned (.bool (aln n)) ∧ w = w' := by
  have hc : ∀ a : Nat, decide ((a : Int) ≤ n) = decide (a ≤ n) := fun a => by simp
  have hc' : ∀ a : Nat, decide ((n : Int) ≤ a) = decide (n ≤ a) := fun a => by simp
  obtain ⟨a1, e1⟩ : ∃ a, a = decide (97 ≤ n) := ⟨_, rfl⟩
  obtain ⟨a2, e2⟩ : ∃ a, a = decide (n ≤ 122) := ⟨_, rfl⟩
  obtain ⟨a3, e3⟩ : ∃ a, a = decide (65 ≤ n) := ⟨_, rfl⟩
  obtain ⟨a4, e4⟩ : ∃ a, a = decide (n ≤ 90) := ⟨_, rfl⟩
  obtain ⟨a5, e5⟩ : ∃ a, a = decide (48 ≤ n) := ⟨_, rfl⟩
  obtain ⟨a6, e6⟩ : ∃ a, a = decide (n ≤ 57) := ⟨_, rfl⟩
  have d1 : decide ((97 : Int) ≤ n) = a1 := (hc 97).trans e1.symm
  have d2 : decide ((n : Int) ≤ 122) = a2 := (hc' 122).trans e2.symm
  have d3 : decide ((65 : Int) ≤ n) = a3 := (hc 65).trans e3.symm
  have d4 : decide ((n : Int) ≤ 90) = a4 := (hc' 90).trans e4.symm
  have d5 : decide ((48 : Int) ≤ n) = a5 := (hc 48).trans e5.symm
  have d6 : decide ((n : Int) ≤ 57) = a6 := (hc' 57).trans e6.symm
  have hv : aln n = ((a1 && a2) || ((a3 && a4) || (a5 && a6))) := by rw [e1, e2, e3, e4, e5, e6]; rfl
  have HV := hidden hv
  clear hv hc hc' e1 e2 e3 e4 e5 e6
  rw [HV.out]
  clear HV
  go_enter Tryd.func83, Tryd.ntmps83
  cases a1 <;> cases a2 <;> cases a3 <;> cases a4 <;> cases a5 <;> cases a6
  all_goals
    go_wp2
    go_ret
    exact ⟨rfl, rfl⟩

theorem toU8_nat {n : Nat} : ((n : Int).toNat).toUInt8 = UInt8.ofNat n := rfl
theorem index_not {l : List UInt8} {c : UInt8} : Lib.indexByte l c = -1 ↔ c ∉ l := by
  induction l with
  | nil => simp [Lib.indexByte]
  | cons b r ih =>
    have h := Lib.indexByte_ge r c
    unfold Lib.indexByte
    by_cases e : b = c
    · subst e
      simp
    · have e' : (b == c) = false := by simpa using e
      rw [e']
      by_cases k : Lib.indexByte r c = -1
      · have := ih.1 k
        simp [k, this, Ne.symm e]
      · have k' : (Lib.indexByte r c == -1) = false := by simpa using k
        rw [k']
        have : ¬ c ∉ r := fun h => k (ih.2 h)
        simp at this
        simp [this]
        omega
theorem index_in (l : List UInt8) (c : UInt8) : (c ∈ l ∧ 0 ≤ Lib.indexByte l c) ∨ (c ∉ l ∧ Lib.indexByte l c = -1) := by
  have h := Lib.indexByte_ge l c
  by_cases k : c ∈ l
  · exact .inl ⟨k, by
      rcases Int.lt_or_le (Lib.indexByte l c) 0 with g | g
      · exact absurd k (index_not.1 (by omega))
      · exact g⟩
  · exact .inr ⟨k, index_not.2 k⟩
theorem conv_one (w : World) (a : Int) : (convert 50 9 (.slice (some ⟨w.heap.size, 0, none⟩) 1 1)).run Tryd.prog (w.alloc (.cells #[.int .u8 a] 5)) =
    .ok (.string (strOfNums [a])) (w.alloc (.cells #[.int .u8 a] 5)) :=
  run_convert_bytes_arg _ 50 5 Tryd.underlying50 Tryd.underlying5 w.heap.size 0 1 1 [a] rfl (by
    intro i hi
    match i, hi with
    | 0, _ => simp) 9 Tryd.underlying9
theorem conv_two0 (w : World) (a b : Int) : (convert 50 9 (.slice (some ⟨w.heap.size, 0, none⟩) 2 2)).run Tryd.prog (w.alloc (.cells #[.int .u8 a, .int .u8 b] 5)) =
    .ok (.string (strOfNums [a, b])) (w.alloc (.cells #[.int .u8 a, .int .u8 b] 5)) :=
  run_convert_bytes_arg _ 50 5 Tryd.underlying50 Tryd.underlying5 w.heap.size 0 2 2 [a, b] rfl (by
    intro i hi
    match i, hi with
    | 0, _ => simp
    | 1, _ => simp) 9 Tryd.underlying9
theorem conv_below {w w1 : World} {a b : Int} (hb : Below (w.alloc (.cells #[.int .u8 a, .int .u8 b] 5)).drew.heap.size (w.alloc (.cells #[.int .u8 a, .int .u8 b] 5)).drew w1) :
    (convert 50 9 (.slice (some ⟨w.heap.size, 0, none⟩) 2 2)).run Tryd.prog w1 = .ok (.string (strOfNums [a, b])) w1 :=
  run_convert_bytes_arg _ 50 5 Tryd.underlying50 Tryd.underlying5 w.heap.size 0 2 2 [a, b] rfl (by
    intro i hi
    have hbl := hb.block w.heap.size (by simp)
    rw [World.cell?_of_block (a := ⟨w.heap.size, _, none⟩) hbl]
    match i, hi with
    | 0, _ => simp
    | 1, _ => simp) 9 Tryd.underlying9
set_option maxHeartbeats 2000000 in
set_option maxRecDepth 100000 in
theorem showChar_calls (n : Nat) (R : List UInt8) (w : World) (hn : n < 256) :
    Calls Tryd.prog 18 #[.int .u8 n, .string (txt R)] w fun e w' => e = .returned (.string (txt (chr R n))) ∧ Below w.heap.size w w' := by
  have hI := fun w => index_calls (txt [10, 9, 13]) n w
  have hJ := fun w => index_calls (txt R) n w
  simp only [list_txt, toU8_nat] at hI hJ
  have HI := hidden hI
  have HJ := hidden hJ
  have HV := hidden (visible_calls n)
  have HX := hidden (fun w => hex_calls n w (by omega) (by omega))
  have h1 := fun w a => conv_one w a
  have h2 := fun w a b => conv_two w a b
  have h3 := fun w a b => conv_two0 w a b
  clear hI hJ
  by_cases c : n = 10 ∨ n = 9 ∨ n = 13
  · rcases c with rfl | rfl | rfl
    case' inl => rw [show Lib.indexByte [10, 9, 13] (UInt8.ofNat 10) = 0 by decide] at HI
    case' inr.inl => rw [show Lib.indexByte [10, 9, 13] (UInt8.ofNat 9) = 1 by decide] at HI
    case' inr.inr => rw [show Lib.indexByte [10, 9, 13] (UInt8.ofNat 13) = 2 by decide] at HI
    all_goals
      go_enter Tryd.func18, Tryd.ntmps18
      go_wp2_with fail
      refine (HI.out _).mono ?_
      rintro e w1 ⟨rfl, rfl⟩
      go_wp2
      go_ret
      exact ⟨rfl, by go_grown⟩
  · have hi : Lib.indexByte [10, 9, 13] (UInt8.ofNat n) = -1 := index_not.2 (by
      have e := toNat_ofNat hn
      intro h
      simp only [List.mem_cons, List.not_mem_nil, or_false] at h
      rcases h with h | h | h
      all_goals
        rw [h] at e
        simp at e
        omega)
    rw [hi] at HI
    have hE : chr R n = if vis n = false then [92, 120, hexB (n / 16), hexB (n % 16)] else if UInt8.ofNat n ∈ R then [92, UInt8.ofNat n] else [UInt8.ofNat n] := by
      unfold chr
      rw [if_neg (by omega), if_neg (by omega), if_neg (by omega)]
    have HE := hidden hE
    clear hE hi c
    cases hv : vis n
    · rw [hv] at HV
      have hE := HE.out
      rw [if_pos hv] at hE
      have HE := hidden hE
      clear hE hv
      go_enter Tryd.func18, Tryd.ntmps18
      go_wp2_with fail
      refine (HI.out _).mono ?_
      rintro e w1 ⟨rfl, rfl⟩
      go_wp2_with fail
      refine (HV.out _).mono ?_
      rintro e w1 ⟨rfl, rfl⟩
      go_wp2
      go_region_with (go_at_call 38; refine (HX.out _).mono ?_; rintro e w1 ⟨rfl, hb1⟩; try have k0 := conv_below hb1)
      all_goals
        go_wp2
        go_ret
        rw [HE.out]
        refine ⟨rfl, ?_⟩
        first
          | exact below_after ((Below.refl _ _).alloc (Nat.le_refl _) _).drew hb1
          | exact (below_after (Below.refl _ w).drew hb1).alloc hb1.size _
    · rw [hv] at HV
      have hE := HE.out
      rw [if_neg (by rw [hv]; simp)] at hE
      rcases index_in R (UInt8.ofNat n) with ⟨m1, m2⟩ | ⟨m1, m2⟩
      · rw [if_pos m1] at hE
        have HE := hidden hE
        have hd : decide (0 ≤ Lib.indexByte R (UInt8.ofNat n)) = true := decide_eq_true m2
        clear hE hv m1
        go_enter Tryd.func18, Tryd.ntmps18
        go_wp2_with fail
        refine (HI.out _).mono ?_
        rintro e w1 ⟨rfl, rfl⟩
        go_wp2_with fail
        refine (HV.out _).mono ?_
        rintro e w1 ⟨rfl, rfl⟩
        go_wp2_with fail
        refine (HJ.out _).mono ?_
        rintro e w1 ⟨rfl, rfl⟩
        go_wp2
        go_ret
        rw [HE.out]
        exact ⟨rfl, by go_grown⟩
      · rw [if_neg m1] at hE
        rw [m2] at HJ
        have HE := hidden hE
        clear hE hv m1
        go_enter Tryd.func18, Tryd.ntmps18
        go_wp2_with fail
        refine (HI.out _).mono ?_
        rintro e w1 ⟨rfl, rfl⟩
        go_wp2_with fail
        refine (HV.out _).mono ?_
        rintro e w1 ⟨rfl, rfl⟩
        go_wp2_with fail
        refine (HJ.out _).mono ?_
        rintro e w1 ⟨rfl, rfl⟩
        go_wp2
        go_ret
        rw [HE.out]
        exact ⟨rfl, by go_grown⟩

set_option maxRecDepth 100000 in
theorem member_calls (n : Nat) (w : World) (hn : n < 256) : Calls Tryd.prog 43 #[.int .i64 n] w fun e w' => e = .returned (.string (txt (chr RC n))) ∧ Below w.heap.size w w' := by
  have HC := hidden (fun w => showChar_calls n RC w hn)
  have hw : IntKind.u8.wrap (n : Int) = n := by rw [IntKind.wrap_u8]; omega
  have hw' : (n : Int) % 256 = n := by omega
  go_enter Tryd.func43, Tryd.ntmps43
  go_wp2_with fail
  refine (HC.out _).mono ?_
  rintro e w1 ⟨rfl, hb1⟩
  go_wp2
  go_ret
  exact ⟨rfl, hb1⟩
end Go.Proofs.YthiiinbkkjacbaaDoor

/- Contracts over the listed table of signs: kindOf, signOf. -/
namespace Go.Proofs.YthiiinbkkjacbaaDoor
open Go.RowKit

/-- the table of signs as it is laid -/
def Signs (w : World) : Prop := (w.cell? ⟨0, 0, none⟩ = some (.int .u8 42) ∧ w.cell? ⟨0, 1, none⟩ = some (.int .i64 5)) ∧ (w.cell? ⟨0, 2, none⟩ = some (.int .u8 43) ∧ w.cell? ⟨0, 3, none⟩ = some (.int .i64 6)) ∧
  (w.cell? ⟨0, 4, none⟩ = some (.int .u8 63) ∧ w.cell? ⟨0, 5, none⟩ = some (.int .i64 7))
theorem signs_lt {w : World} (h : Signs w) : 0 < w.heap.size := cell_lt h.1.1
theorem Signs.kept {w w' : World} (h : Signs w) (hb : w'.heap[0]? = w.heap[0]?) : Signs w' := by
  obtain ⟨⟨h0, h1⟩, ⟨h2, h3⟩, h4, h5⟩ := h
  have k : ∀ j, w'.cell? ⟨0, j, none⟩ = w.cell? ⟨0, j, none⟩ := fun j => World.cell?_of_block (a := ⟨0, j, none⟩) hb
  exact ⟨⟨(k 0).trans h0, (k 1).trans h1⟩, ⟨(k 2).trans h2, (k 3).trans h3⟩, (k 4).trans h4, (k 5).trans h5⟩
theorem Signs.below {w w' : World} (h : Signs w) (hb : Below w.heap.size w w') : Signs w' := h.kept (hb.block _ (signs_lt h))
theorem toNat_same {c d : UInt8} (h : ((c.toNat : Int) == (d.toNat : Int)) = true) : c = d := by
  rw [beq_iff_eq] at h
  exact UInt8.toNat_inj.1 (by omega)

set_option maxHeartbeats 2000000 in
set_option maxRecDepth 100000 in
theorem kindOf_calls (c : UInt8) (w : World) (ht : Signs w) :
    Calls Tryd.prog 57 #[.int .u8 (c.toNat : Int)] w fun e w' => e = .returned (.tuple #[.int .i64 (sign c), .bool (decide (sign c ≠ 0))]) ∧ Below w.heap.size w w' := by
  obtain ⟨⟨c0, c1⟩, ⟨c2, c3⟩, c4, c5⟩ := ht
  have i0 : ∀ w, (Instr.index 95 (.agg #[.int .u8 42, .int .i64 5, .int .u8 43, .int .i64 6, .int .u8 63, .int .i64 7]) (.int .i64 0)).run Tryd.prog w = .ok (.agg #[.int .u8 42, .int .i64 5]) w := fun _ => by kernel_rfl
  have i1 : ∀ w, (Instr.index 95 (.agg #[.int .u8 42, .int .i64 5, .int .u8 43, .int .i64 6, .int .u8 63, .int .i64 7]) (.int .i64 1)).run Tryd.prog w = .ok (.agg #[.int .u8 43, .int .i64 6]) w := fun _ => by kernel_rfl
  have i2 : ∀ w, (Instr.index 95 (.agg #[.int .u8 42, .int .i64 5, .int .u8 43, .int .i64 6, .int .u8 63, .int .i64 7]) (.int .i64 2)).run Tryd.prog w = .ok (.agg #[.int .u8 63, .int .i64 7]) w := fun _ => by kernel_rfl
  have hcase : (c.toNat : Int) = 42 ∧ sign c = 5 ∨ (c.toNat : Int) = 43 ∧ sign c = 6 ∨ (c.toNat : Int) = 63 ∧ sign c = 7 ∨ (c.toNat : Int) ≠ 42 ∧ (c.toNat : Int) ≠ 43 ∧ (c.toNat : Int) ≠ 63 ∧ sign c = 0 := by
    by_cases h1 : c = 42
    · subst h1; exact .inl ⟨rfl, rfl⟩
    by_cases h2 : c = 43
    · subst h2; exact .inr (.inl ⟨rfl, rfl⟩)
    by_cases h3 : c = 63
    · subst h3; exact .inr (.inr (.inl ⟨rfl, rfl⟩))
    have ne : ∀ d : UInt8, c ≠ d → (c.toNat : Int) ≠ (d.toNat : Int) := fun d hd e => hd (UInt8.toNat_inj.1 (by omega))
    exact .inr (.inr (.inr ⟨ne 42 h1, ne 43 h2, ne 63 h3, sign_no h1 h2 h3⟩))
  generalize (c.toNat : Int) = n at *
  obtain ⟨o, ho⟩ : ∃ o : Bool, o = decide (sign c ≠ 0) := ⟨_, rfl⟩
  rw [← ho]
  generalize sign c = k at *
  rcases hcase with ⟨rfl, rfl⟩ | ⟨rfl, rfl⟩ | ⟨rfl, rfl⟩ | ⟨h1, h2, h3, rfl⟩
  case' inl => rw [show decide ((5 : Int) ≠ 0) = true from rfl] at ho
  case' inr.inl => rw [show decide ((6 : Int) ≠ 0) = true from rfl] at ho
  case' inr.inr.inl => rw [show decide ((7 : Int) ≠ 0) = true from rfl] at ho
  case' inr.inr.inr =>
    rw [show decide ((0 : Int) ≠ 0) = false from rfl] at ho
    have q1 : ((42 : Int) == n) = false := by simp; omega
    have q2 : ((43 : Int) == n) = false := by simp; omega
    have q3 : ((63 : Int) == n) = false := by simp; omega
    clear h1 h2 h3
  all_goals
    subst ho
    go_enter Tryd.func57, Tryd.ntmps57
    go_wp2
    clear c0 c1 c2 c3 c4 c5
    refine wp_loop_rounds 4 ?_
    iterate 4
      try rw [rounds_succ]
      try go_wp2
    go_ret2
    exact ⟨rfl, by go_grown⟩
theorem conv_oneAt (w : World) (b : Nat) (a : Int) (hb : b = w.heap.size) : (convert 50 9 (.slice (some ⟨b, 0, none⟩) 1 1)).run Tryd.prog (w.alloc (.cells #[.int .u8 a] 5)) =
    .ok (.string (strOfNums [a])) (w.alloc (.cells #[.int .u8 a] 5)) := by
  subst hb
  exact conv_one w a
set_option maxHeartbeats 2000000 in
set_option maxRecDepth 100000 in
theorem signOf_calls (k : Int) (w : World) (ht : Signs w) (hk : k = 5 ∨ k = 6 ∨ k = 7) :
    Calls Tryd.prog 33 #[.int .i64 k] w fun e w' => e = .returned (.string (txt [sgn k])) ∧ Below w.heap.size w w' := by
  obtain ⟨⟨c0, c1⟩, ⟨c2, c3⟩, c4, c5⟩ := ht
  have i0 : ∀ w, (Instr.index 95 (.agg #[.int .u8 42, .int .i64 5, .int .u8 43, .int .i64 6, .int .u8 63, .int .i64 7]) (.int .i64 0)).run Tryd.prog w = .ok (.agg #[.int .u8 42, .int .i64 5]) w := fun _ => by kernel_rfl
  have i1 : ∀ w, (Instr.index 95 (.agg #[.int .u8 42, .int .i64 5, .int .u8 43, .int .i64 6, .int .u8 63, .int .i64 7]) (.int .i64 1)).run Tryd.prog w = .ok (.agg #[.int .u8 43, .int .i64 6]) w := fun _ => by kernel_rfl
  have i2 : ∀ w, (Instr.index 95 (.agg #[.int .u8 42, .int .i64 5, .int .u8 43, .int .i64 6, .int .u8 63, .int .i64 7]) (.int .i64 2)).run Tryd.prog w = .ok (.agg #[.int .u8 63, .int .i64 7]) w := fun _ => by kernel_rfl
  have h3 := fun w b a hb => conv_oneAt w b a hb
  rcases hk with rfl | rfl | rfl
  all_goals
    go_enter Tryd.func33, Tryd.ntmps33
    go_wp2
    clear c0 c1 c2 c3 c4 c5
    refine wp_loop_rounds 4 ?_
    iterate 4
      try rw [rounds_succ]
      try go_wp2
    go_ret
    exact ⟨rfl, by go_grown⟩
end Go.Proofs.YthiiinbkkjacbaaDoor
