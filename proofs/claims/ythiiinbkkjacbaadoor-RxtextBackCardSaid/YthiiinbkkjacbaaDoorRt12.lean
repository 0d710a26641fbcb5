/- TxtReads, TxtPhi, TxtForm, Later, put together. -/
import Derived.Test.YthiiinbkkjacbaaDoorRt11
import Derived.Test.YthiiinbkkjacbaaDoorRt09
import Derived.Test.YthiiinbkkjacbaaDoorRt07
import Derived.Deep.QuietTactic
import Derived.BigQuiet
/- The contract of Read. -/
namespace Go.Proofs.YthiiinbkkjacbaaDoor
open Go.RowKit Go.Lib Go.Joins

/-- what Read tells -/
def RetR (w : World) (r : List Stp × Nat × Int) (e : Ending) (w' : World) : Prop :=
  ∃ v, e = .returned (.tuple #[v, .int .i64 (r.2.1 : Nat), .int .i64 r.2.2]) ∧ RowX w' w.heap.size v r.1
theorem retR_of {w w' : World} {r : List Stp × Nat × Int} {L : List Stp} {n : Nat} {k : Int} {v : Value} (h : r = (L, n, k)) (hv : RowX w' w.heap.size v L) : RetR w r (.returned (.tuple #[v, .int .i64 (n : Nat), .int .i64 k])) w' := by
  subst h
  exact ⟨v, rfl, hv⟩
theorem readR_long {l : List UInt8} (h : 4096 < l.length) : readR l = ([], 0, 4) := by unfold readR; rw [if_pos h]
theorem readR_none {l : List UInt8} {r : Option (List Stp) × Nat} (h : ¬ 4096 < l.length) (hr : readV l = r) (hn : r.1 = none) : readR l = ([], r.2, 3) := by
  unfold readR
  rw [if_neg h, hr]
  obtain ⟨a, b⟩ := r
  simp only at hn
  rw [hn]
theorem readR_some {l st : List _} {r : Option (List Stp) × Nat} (h : ¬ 4096 < l.length) (hr : readV l = r) (hn : r.1 = some st) : readR l = if 512 < st.length then ([], 0, 4) else (st, r.2, 0) := by
  unfold readR
  rw [if_neg h, hr]
  obtain ⟨a, b⟩ := r
  simp only at hn
  rw [hn]
set_option maxHeartbeats 2000000 in
set_option maxRecDepth 100000 in
theorem read_calls (s : ByteArray) (w : World) (ht : Signs w) :
    Calls Tryd.prog 12 #[.string s] w fun e w' => RetR w (readR s.data.toList) e w' ∧ Below w.heap.size w w' := by
  have hlen : s.data.toList.length = s.size := by simp
  by_cases hl : 4096 < s.size
  · have HF := hidden (readR_long (l := s.data.toList) (by omega))
    have q1 : decide ((4096 : Int) < (s.size : Nat)) = true := decide_eq_true (by omega)
    clear ht hlen
    go_enter Tryd.func12, Tryd.ntmps12
    go_wp2
    go_ret3
    exact ⟨retR_of (n := 0) HF.out (RowX.nil _ _), Below.refl _ _⟩
  · have hR := readSteps_calls s w ht (by omega)
    obtain ⟨r, hr⟩ : ∃ r, r = readV s.data.toList := ⟨_, rfl⟩
    rw [← hr] at hR
    have HN := hidden (fun hn => readR_none (r := r) (by omega) hr.symm hn)
    have HS := hidden (fun st hn => readR_some (st := st) (r := r) (by omega) hr.symm hn)
    have HR := hidden hR
    have q1 : decide ((4096 : Int) < (s.size : Nat)) = false := decide_eq_false (by omega)
    clear ht hlen hr hR
    go_enter Tryd.func12, Tryd.ntmps12
    go_wp2_with fail
    refine HR.out.mono ?_
    rintro e w1 ⟨hd, hb⟩
    have HB := hidden hb
    rcases hd with ⟨hn, rfl⟩ | ⟨st, v, hn, rfl, hv⟩
    · have HF := hidden (HN.out hn)
      clear hn hb HN HS HR
      go_wp2
      go_ret3
      exact ⟨retR_of HF.out (RowX.nil _ _), HB.out⟩
    · have HF := HS.out st hn
      have HV := hidden hv
      obtain ⟨a, cap, rfl, _⟩ := hv.reads
      by_cases h5 : 512 < st.length
      · rw [if_pos h5] at HF
        have HF := hidden HF
        generalize st.length = n at *
        have q2 : decide ((512 : Int) < (n : Nat)) = true := decide_eq_true (by omega)
        clear hn hb HN HS HR hv
        go_wp2
        go_ret3
        exact ⟨retR_of (n := 0) HF.out (RowX.nil _ _), HB.out⟩
      · rw [if_neg h5] at HF
        have HF := hidden HF
        generalize st.length = n at *
        have q2 : decide ((512 : Int) < (n : Nat)) = false := decide_eq_false (by omega)
        clear hn hb HN HS HR hv
        go_wp2
        go_ret3
        exact ⟨retR_of HF.out HV.out, HB.out⟩
end Go.Proofs.YthiiinbkkjacbaaDoor

/- What the reader puts together: trees, and how long their texts can be. Of no program. -/
namespace Go.Proofs.YthiiinbkkjacbaaDoor

/-- what a tree costs: its text, and the parentheses that it may want -/
def cst (e : Ex) : Nat := (showE e).length + if isTwo e.kind = true then 2 else 0
def csts (es : List Ex) : Nat := (es.map cst).sum
/-- what an operator costs that waits -/
def pc (k : Int) : Nat := if k = 3 then 2 else if k = 4 then 3 else 0
def pcs (w : List Int) : Nat := (w.map pc).sum
def nz (w : List Int) : Nat := w.countP fun k => k != 0
def Waits (w : List Int) : Prop := ∀ k ∈ w, k = 0 ∨ k = 3 ∨ k = 4
/-- the steps are those of trees, one for each operator that waits, and p more; all of it costs at most c -/
structure Inv (x : Bld) (p c : Nat) : Prop where
  trees : ∃ es : List Ex, x.st = es.flatMap ops ∧ (∀ e ∈ es, e.ok) ∧ es.length = nz x.wt + p ∧ csts es + pcs x.wt ≤ c
  waits : Waits x.wt
theorem csts_append (a b : List Ex) : csts (a ++ b) = csts a + csts b := by simp [csts]
theorem csts_one (e : Ex) : csts [e] = cst e := by simp [csts]
theorem par_le (e : Ex) : (par (isTwo e.kind) (showE e)).length ≤ cst e ∧ (par (isAlt e.kind) (showE e)).length ≤ cst e := by
  have h : isAlt e.kind = true → isTwo e.kind = true := fun h => by
    unfold isAlt at h
    unfold isTwo
    simp [h]
  unfold par cst
  constructor
  · split
    · simp only [List.length_append, List.length_cons, List.length_nil]; omega
    · omega
  · split
    · rename_i g
      rw [if_pos (h g)]
      simp only [List.length_append, List.length_cons, List.length_nil]; omega
    · omega
theorem cst_cat (a b : Ex) : cst (.cat a b) ≤ cst a + cst b + 2 := by
  have h1 := (par_le a).2
  have h2 := (par_le b).1
  have e : cst (.cat a b) = (par (isAlt a.kind) (showE a)).length + (par (isTwo b.kind) (showE b)).length + 2 := by simp [cst, showE, isTwo, Ex.kind]
  omega
theorem cst_alt (a b : Ex) : cst (.alt a b) ≤ cst a + cst b + 3 := by
  have h2 := (par_le b).2
  have e : cst (.alt a b) = (showE a).length + 1 + (par (isAlt b.kind) (showE b)).length + 2 := by simp [cst, showE, isTwo, Ex.kind]; omega
  have : (showE a).length ≤ cst a := by unfold cst; omega
  omega
theorem cst_un (k : Int) (hk : k = 5 ∨ k = 6 ∨ k = 7) (a : Ex) : cst (.un k a) ≤ cst a + 1 := by
  have h1 := (par_le a).1
  have e : cst (.un k a) = (par (isTwo a.kind) (showE a)).length + 1 := by
    rcases hk with rfl | rfl | rfl <;> simp [cst, showE, isTwo, Ex.kind]
  omega
theorem cst_emp : cst .emp = 2 := rfl
theorem last_two {es : List Ex} {n : Nat} (h : es.length = n + 2) : ∃ r a b, es = r ++ [a, b] ∧ r.length = n := by
  refine ⟨es.take n, es[n]'(by omega), es[n + 1]'(by omega), ?_, by simp; omega⟩
  apply List.ext_getElem
  · simp; omega
  · intro i h1 h2
    rw [List.getElem_append]
    split
    · simp
    · rename_i g
      simp at g
      have : i = n ∨ i = n + 1 := by omega
      have hm : min n es.length = n := by omega
      rcases this with g | g
      · simp [List.length_take, hm, g]
      · simp [List.length_take, hm, g]
theorem last_one {es : List Ex} {n : Nat} (h : es.length = n + 1) : ∃ r a, es = r ++ [a] ∧ r.length = n := by
  refine ⟨es.take n, es[n]'(by omega), ?_, by simp; omega⟩
  apply List.ext_getElem
  · simp; omega
  · intro i h1 h2
    rw [List.getElem_append]
    split
    · simp
    · rename_i g
      simp at g
      have : i = n := by omega
      subst this
      simp
theorem Inv.more {x : Bld} {p c d : Nat} (h : Inv x p c) (hd : c ≤ d) : Inv x p d := by
  obtain ⟨⟨es, h1, h2, h3, h4⟩, h5⟩ := h
  exact ⟨⟨es, h1, h2, h3, by omega⟩, h5⟩
theorem Inv.settle {x : Bld} {c : Nat} (h : Inv x 1 c) (k : Int) (hk : k = 3 ∨ k = 4) : Inv (settle k x) 1 c := by
  obtain ⟨⟨es, h1, h2, h3, h4⟩, h5⟩ := h
  obtain ⟨st, wt, hp⟩ := x
  unfold Go.Proofs.YthiiinbkkjacbaaDoor.settle
  match wt, h3, h4, h5 with
  | [], h3, h4, h5 => exact ⟨⟨es, h1, h2, h3, h4⟩, h5⟩
  | y :: r, h3, h4, h5 =>
    simp only
    split
    · rename_i e
      subst e
      have hn : nz (y :: r) = nz r + 1 := by
        unfold nz
        rw [List.countP_cons_of_pos]
        rcases hk with rfl | rfl <;> decide
      simp only at h3 h4 h1
      rw [hn] at h3
      obtain ⟨q, a, b, rfl, hq⟩ := last_two (n := nz r) (by omega)
      have hp4 : pcs (y :: r) = pc y + pcs r := by simp [pcs]
      rw [hp4, csts_append] at h4
      have hab : csts [a, b] = cst a + cst b := by simp [csts]
      rw [hab] at h4
      have ha : a.ok := h2 a (by simp)
      have hb : b.ok := h2 b (by simp)
      have hr : Waits r := fun z hz => h5 z (by simp [hz])
      rcases hk with rfl | rfl
      · refine ⟨⟨q ++ [.cat a b], ?_, ?_, by simp [hq], ?_⟩, hr⟩
        · simp [h1, ops]
        · intro e he
          simp only [List.mem_append, List.mem_singleton] at he
          rcases he with he | rfl
          · exact h2 e (by simp [he])
          · exact ⟨ha, hb⟩
        · rw [csts_append, csts_one]
          have := cst_cat a b
          have e : pc 3 = 2 := rfl
          simp only
          omega
      · refine ⟨⟨q ++ [.alt a b], ?_, ?_, by simp [hq], ?_⟩, hr⟩
        · simp [h1, ops]
        · intro e he
          simp only [List.mem_append, List.mem_singleton] at he
          rcases he with he | rfl
          · exact h2 e (by simp [he])
          · exact ⟨ha, hb⟩
        · rw [csts_append, csts_one]
          have := cst_alt a b
          have e : pc 4 = 3 := rfl
          simp only
          omega
    · exact ⟨⟨es, h1, h2, h3, h4⟩, h5⟩
/-- a flag more or less is nothing -/
theorem Inv.flag {st : List Stp} {wt : List Int} {q : Bool} {p c : Nat} (h : Inv ⟨st, wt, q⟩ p c) (q' : Bool) : Inv ⟨st, wt, q'⟩ p c := ⟨h.1, h.2⟩
theorem Inv.put {st : List Stp} {wt : List Int} {q : Bool} {p c : Nat} (h : Inv ⟨st, wt, q⟩ p c) (e : Ex) (he : e.ok) : Inv ⟨st ++ ops e, wt, q⟩ (p + 1) (c + cst e) := by
  obtain ⟨⟨es, h1, h2, h3, h4⟩, h5⟩ := h
  refine ⟨⟨es ++ [e], ?_, ?_, ?_, ?_⟩, h5⟩
  · simp only at h1 ⊢
    simp [h1]
  · intro x hx
    simp only [List.mem_append, List.mem_singleton] at hx
    rcases hx with hx | rfl
    · exact h2 x hx
    · exact he
  · simp only [List.length_append, List.length_cons, List.length_nil] at h3 ⊢; omega
  · rw [csts_append, csts_one]; simp only at h4 ⊢; omega
theorem Inv.wait {st : List Stp} {wt : List Int} {q : Bool} {p c : Nat} (h : Inv ⟨st, wt, q⟩ (p + 1) c) (k : Int) (hk : k = 3 ∨ k = 4) : Inv ⟨st, k :: wt, q⟩ p (c + pc k) := by
  obtain ⟨⟨es, h1, h2, h3, h4⟩, h5⟩ := h
  refine ⟨⟨es, h1, h2, ?_, ?_⟩, ?_⟩
  · have : nz (k :: wt) = nz wt + 1 := by
      unfold nz
      rw [List.countP_cons_of_pos]
      rcases hk with rfl | rfl <;> decide
    simp only at h3 ⊢
    omega
  · have : pcs (k :: wt) = pc k + pcs wt := by simp [pcs]
    simp only at h4 ⊢
    omega
  · intro z hz
    simp only [List.mem_cons] at hz
    rcases hz with rfl | hz
    · exact .inr hk
    · exact h5 z hz
theorem Inv.wait0 {st : List Stp} {wt : List Int} {q : Bool} {p c : Nat} (h : Inv ⟨st, wt, q⟩ p c) : Inv ⟨st, 0 :: wt, q⟩ p c := by
  obtain ⟨⟨es, h1, h2, h3, h4⟩, h5⟩ := h
  refine ⟨⟨es, h1, h2, ?_, ?_⟩, ?_⟩
  · have : nz (0 :: wt) = nz wt := by unfold nz; rw [List.countP_cons_of_neg]; simp
    simp only at h3 ⊢
    omega
  · have : pcs (0 :: wt) = pcs wt := by simp [pcs, pc]
    simp only at h4 ⊢
    omega
  · intro z hz
    simp only [List.mem_cons] at hz
    rcases hz with rfl | hz
    · exact .inl rfl
    · exact h5 z hz
theorem Inv.pop0 {st : List Stp} {wt : List Int} {q : Bool} {p c : Nat} (h : Inv ⟨st, 0 :: wt, q⟩ p c) : Inv ⟨st, wt, q⟩ p c := by
  obtain ⟨⟨es, h1, h2, h3, h4⟩, h5⟩ := h
  refine ⟨⟨es, h1, h2, ?_, ?_⟩, ?_⟩
  · have : nz (0 :: wt) = nz wt := by unfold nz; rw [List.countP_cons_of_neg]; simp
    simp only at h3 ⊢
    omega
  · have : pcs (0 :: wt) = pcs wt := by simp [pcs, pc]
    simp only at h4 ⊢
    omega
  · intro z hz
    exact h5 z (by simp [hz])
theorem Inv.emp {x : Bld} {c : Nat} (h : Inv x (hb x.hp) c) : Inv (bEmp x) 1 (c + 2) := by
  unfold bEmp
  obtain ⟨st, wt, hp⟩ := x
  cases hp
  · exact (h.put .emp trivial)
  · exact h.more (by omega)
theorem Inv.ends {x : Bld} {c : Nat} (h : Inv x (hb x.hp) c) : Inv (bEnd x) 1 (c + 2) := (h.emp.settle 3 (.inl rfl)).settle 4 (.inr rfl)
theorem Inv.begins {x : Bld} {c : Nat} (h : Inv x (hb x.hp) c) : Inv (bBegin x) 0 (c + 2) := by
  unfold bBegin
  obtain ⟨st, wt, hp⟩ := x
  cases hp
  · exact h.more (by omega)
  · have h1 : Inv (Go.Proofs.YthiiinbkkjacbaaDoor.settle 3 ⟨st, wt, true⟩) 1 c := Inv.settle h 3 (.inl rfl)
    exact (Inv.wait (p := 0) (q := (Go.Proofs.YthiiinbkkjacbaaDoor.settle 3 ⟨st, wt, true⟩).hp) h1 3 (.inl rfl)).flag true
theorem inv_start : Inv b0 0 0 := ⟨⟨[], rfl, by simp, rfl, Nat.le_refl _⟩, by simp [Waits, b0]⟩
/-- one step of the machine -/
theorem inv_step {l : List UInt8} {x y : Bld} {m k : Nat} (h : Inv x (hb x.hp) (34 * k / 5)) (hs : stepM l x = (some y, m)) : Inv y (hb y.hp) (34 * (k + m) / 5) := by
  match l with
  | [] => simp [stepM] at hs
  | c :: r =>
    simp only [stepM] at hs
    split at hs
    · rename_i hsg
      split at hs
      · rename_i hp
        simp only [Prod.mk.injEq, Option.some.injEq] at hs
        obtain ⟨rfl, rfl⟩ := hs
        obtain ⟨⟨es, h1, h2, h3, h4⟩, h5⟩ := h
        have hh : hb x.hp = 1 := by rw [hp]; rfl
        rw [hh] at h3
        obtain ⟨q, a, rfl, hq⟩ := last_one h3
        have hk : sign c = 5 ∨ sign c = 6 ∨ sign c = 7 := by
          unfold sign at hsg ⊢
          split
          · simp
          · split
            · simp
            · split
              · simp
              · rename_i a b c'
                rw [if_neg a, if_neg b, if_neg c'] at hsg
                simp at hsg
        refine ⟨⟨q ++ [.un (sign c) a], ?_, ?_, ?_, ?_⟩, h5⟩
        · simp [h1, ops]
        · intro e he
          simp only [List.mem_append, List.mem_singleton] at he
          rcases he with he | rfl
          · exact h2 e (by simp [he])
          · exact ⟨hk, h2 a (by simp)⟩
        · show (q ++ [Ex.un (sign c) a]).length = nz x.wt + 1
          simp [hq]
        · have := cst_un (sign c) hk a
          rw [csts_append, csts_one] at h4 ⊢
          simp only
          omega
      · simp at hs
    split at hs
    · simp only [Prod.mk.injEq, Option.some.injEq] at hs
      obtain ⟨rfl, rfl⟩ := hs
      exact (Inv.wait0 (q := (bBegin x).hp) h.begins).flag false |>.more (by omega)
    split at hs
    · split at hs
      · simp at hs
      · rename_i z hz
        simp only [Prod.mk.injEq, Option.some.injEq] at hs
        obtain ⟨rfl, rfl⟩ := hs
        unfold bClose at hz
        split at hz
        · cases hz
        · rename_i a b e
          split at hz
          · rename_i ha
            cases hz
            subst ha
            have h1 : Inv ⟨(bEnd x).st, (bEnd x).wt, (bEnd x).hp⟩ 1 _ := h.ends
            rw [e] at h1
            exact (h1.pop0.flag true).more (by omega)
          · cases hz
    split at hs
    · simp only [Prod.mk.injEq, Option.some.injEq] at hs
      obtain ⟨rfl, rfl⟩ := hs
      have h1 : Inv ⟨(bEnd x).st, (bEnd x).wt, (bEnd x).hp⟩ 1 _ := h.ends
      exact ((Inv.wait (p := 0) h1 4 (.inr rfl)).flag false).more (by
        have : pc 4 = 3 := rfl
        omega)
    split at hs
    · rename_i ho
      have hf := (rdSet_fit (c :: r)).2 ho
      simp only [Prod.mk.injEq, Option.some.injEq] at hs
      obtain ⟨rfl, rfl⟩ := hs
      have h1 : Inv ⟨(bBegin x).st, (bBegin x).wt, (bBegin x).hp⟩ 0 _ := h.begins
      have e : cst (.set (rdSet (c :: r)).1) = (shSet (rdSet (c :: r)).1).length := rfl
      exact ((h1.put (.set (rdSet (c :: r)).1) trivial).flag true).more (by omega)
    · simp at hs
theorem inv_run : ∀ (n : Nat) (l : List UInt8) (x : Bld) (k : Nat), Inv x (hb x.hp) (34 * k / 5) → ∀ y q, runM n l x = (some y, q) → q ≤ l.length ∧ Inv y (hb y.hp) (34 * (k + q) / 5)
  | 0, _, _, _, _, y, q, h => by simp [runM] at h
  | n + 1, [], x, k, hi, y, q, h => by
    simp only [runM, Prod.mk.injEq, Option.some.injEq] at h
    obtain ⟨rfl, rfl⟩ := h
    exact ⟨Nat.le_refl _, hi⟩
  | n + 1, c :: r, x, k, hi, y, q, h => by
    simp only [runM] at h
    split at h
    · simp at h
    · rename_i b m e
      simp only [Prod.mk.injEq] at h
      obtain ⟨h1, rfl⟩ := h
      have hm := stepM_some e
      have ih := inv_run n ((c :: r).drop m) b (k + m) (inv_step hi e) y (runM n ((c :: r).drop m) b).2 (by rw [← h1])
      rw [List.length_drop] at ih
      exact ⟨by omega, by rw [← Nat.add_assoc]; exact ih.2⟩
theorem run_none : ∀ (n : Nat) (l : List UInt8) (x : Bld) (q : Nat), runM n l x = (none, q) → q ≤ l.length
  | 0, _, _, q, h => by simp [runM] at h; omega
  | n + 1, [], x, q, h => by simp [runM] at h
  | n + 1, c :: r, x, q, h => by
    simp only [runM] at h
    split at h
    · rename_i m e
      simp only [Prod.mk.injEq, true_and] at h
      subst h
      exact stepM_none e
    · rename_i b m e
      simp only [Prod.mk.injEq] at h
      obtain ⟨h1, rfl⟩ := h
      have hm := stepM_some e
      have ih := run_none n ((c :: r).drop m) b (runM n ((c :: r).drop m) b).2 (by rw [← h1])
      rw [List.length_drop] at ih
      omega
/-- WHAT IS READ: the steps of a tree whose text is not much longer, and the place -/
theorem read_tree {l : List UInt8} {st : List Stp} {n : Nat} (h : readV l = (some st, n)) : n = l.length ∧ ∃ e : Ex, e.ok ∧ st = ops e ∧ 5 * (showE e).length ≤ 34 * l.length + 10 := by
  unfold readV at h
  split at h
  · simp at h
  · rename_i b q e
    have hi := inv_run _ _ _ 0 (inv_start.more (Nat.zero_le _)) _ _ e
    unfold fin at h
    split at h
    · rename_i hw
      simp only [Prod.mk.injEq, Option.some.injEq] at h
      obtain ⟨rfl, rfl⟩ := h
      obtain ⟨⟨es, h1, h2, h3, h4⟩, _⟩ := hi.2.ends
      rw [hw] at h3 h4
      have h3 : es.length = 1 := h3
      match es, h3 with
      | [t], _ =>
        refine ⟨rfl, t, h2 t (by simp), by simpa using h1, ?_⟩
        rw [csts_one] at h4
        have : (showE t).length ≤ cst t := by unfold cst; omega
        have : pcs [] = 0 := rfl
        omega
    · simp at h
theorem read_none_le {l : List UInt8} {n : Nat} (h : readV l = (none, n)) : n ≤ l.length := by
  unfold readV at h
  split at h
  · rename_i k e
    simp only [Prod.mk.injEq, true_and] at h
    subst h
    exact run_none _ _ _ _ e
  · unfold fin at h
    split at h
    · simp at h
    · simp only [Prod.mk.injEq, true_and] at h
      omega
theorem read_star (l : List UInt8) : readV (42 :: l) = (none, 0) := by
  unfold readV
  have : runM ((42 :: l).length + 1) (42 :: l) b0 = (none, 0) := by
    simp only [List.length_cons, runM]
    have : stepM (42 :: l) b0 = (none, 0) := by
      simp only [stepM]
      rw [if_pos (by decide), if_neg (by decide)]
    rw [this]
  rw [this]
end Go.Proofs.YthiiinbkkjacbaaDoor

/- Valid lists of steps are those of one tree; how long its text is. Of no program. -/
namespace Go.Proofs.YthiiinbkkjacbaaDoor

/-- the words of a step are words -/
def Stp.wide (s : Stp) : Prop := (0 ≤ s.a ∧ s.a ≤ 18446744073709551615) ∧ (0 ≤ s.b ∧ s.b ≤ 18446744073709551615) ∧ (0 ≤ s.c ∧ s.c ≤ 18446744073709551615) ∧ (0 ≤ s.d ∧ s.d ≤ 18446744073709551615)
def bitsE (s : Stp) : Nat → Bool := mem s.a.toNat s.b.toNat s.c.toNat s.d.toNat
theorem bitsE_step {s : Stp} (hk : s.k = 1) (hw : s.wide) : s = sStp (bitsE s) := by
  obtain ⟨h1, h2, h3, h4⟩ := hw
  obtain ⟨m0, m1, m2, m3⟩ := word_mem (a := s.a.toNat) (b := s.b.toNat) (c := s.c.toNat) (d := s.d.toNat) (by omega) (by omega) (by omega) (by omega)
  obtain ⟨k, a, b, c, d⟩ := s
  unfold sStp bitsE
  simp only at hk h1 h2 h3 h4 m0 m1 m2 m3 ⊢
  rw [m0, m1, m2, m3, hk]
  simp only [Stp.mk.injEq, true_and]
  omega
theorem bitsE_words {s : Stp} (hw : s.wide) : (word (bitsE s) 0 : Int) = s.a ∧ (word (bitsE s) 1 : Int) = s.b ∧ (word (bitsE s) 2 : Int) = s.c ∧ (word (bitsE s) 3 : Int) = s.d := by
  obtain ⟨h1, h2, h3, h4⟩ := hw
  obtain ⟨m0, m1, m2, m3⟩ := word_mem (a := s.a.toNat) (b := s.b.toNat) (c := s.c.toNat) (d := s.d.toNat) (by omega) (by omega) (by omega) (by omega)
  unfold bitsE
  rw [m0, m1, m2, m3]
  omega
/-- a step puts trees together: the last one stands first -/
def pushE (s : Stp) (t : List Ex) : List Ex :=
  if s.k = 1 then .set (bitsE s) :: t else if s.k = 2 then .emp :: t else
  if s.k = 3 then (match t with | b :: a :: r => .cat a b :: r | _ => t) else
  if s.k = 4 then (match t with | b :: a :: r => .alt a b :: r | _ => t) else (match t with | a :: r => .un s.k a :: r | _ => t)
def treeGo : List Stp → List Ex → List Ex
  | [], t => t
  | s :: r, t => treeGo r (pushE s t)
theorem treeGo_append : ∀ (a b : List Stp) (t : List Ex), treeGo (a ++ b) t = treeGo b (treeGo a t)
  | [], _, _ => rfl
  | s :: r, b, t => treeGo_append r b (pushE s t)
def trees (L : List Stp) (k : Nat) : List Ex := (treeGo (L.take k) []).reverse
def treeE (L : List Stp) : Ex := (treeGo L []).headD .emp
/-- the text of a list of steps -/
def showL (L : List Stp) : List UInt8 := showE (treeE L)
/-- what a step does to the trees, the last one standing last -/
inductive Next (s : Stp) : List Ex → List Ex → Prop
  | set (r) (h : s.k = 1) (e : s = sStp (bitsE s)) : Next s r (r ++ [.set (bitsE s)])
  | emp (r) (e : s = kStp 2) : Next s r (r ++ [.emp])
  | cat (r a b) (e : s = kStp 3) : Next s (r ++ [a, b]) (r ++ [.cat a b])
  | alt (r a b) (e : s = kStp 4) : Next s (r ++ [a, b]) (r ++ [.alt a b])
  | un (r a) (e : s = kStp s.k) (h : s.k = 5 ∨ s.k = 6 ∨ s.k = 7) : Next s (r ++ [a]) (r ++ [.un s.k a])
theorem ops_expr : ∀ e : Ex, e.ok → Expr (ops e)
  | .set f, _ => by
    refine ⟨⟨⟨by show 0 ≤ kOps 1; decide, .inl rfl⟩, by show kOps 1 ≤ 0; decide, trivial⟩, ?_⟩
    show (1 - kOps 1) + 0 = 1
    decide
  | .emp, _ => by
    refine ⟨⟨⟨by show 0 ≤ kOps 2; decide, .inr ⟨rfl, rfl, rfl, rfl⟩⟩, by show kOps 2 ≤ 0; decide, trivial⟩, ?_⟩
    show (1 - kOps 2) + 0 = 1
    decide
  | .cat a b, ⟨ha, hb⟩ => expr_two (ops_expr a ha) (ops_expr b hb) (.inl rfl)
  | .alt a b, ⟨ha, hb⟩ => expr_two (ops_expr a ha) (ops_expr b hb) (.inr rfl)
  | .un k a, ⟨hk, ha⟩ => expr_one (ops_expr a ha) hk
theorem flat_net : ∀ es : List Ex, (∀ e ∈ es, e.ok) → net (es.flatMap ops) = es.length
  | [], _ => rfl
  | e :: r, h => by
    rw [List.flatMap_cons, net_append, (ops_expr e (h e (by simp))).2, flat_net r fun x hx => h x (by simp [hx])]
    simp only [List.length_cons]
    omega
/-- trees of a list of steps -/
def Forms (L : List Stp) (es : List Ex) : Prop := es.flatMap ops = L ∧ ∀ e ∈ es, e.ok
theorem Forms.put {L : List Stp} {r q : List Ex} {e : Ex} {s : Stp} (h : Forms L (r ++ q)) (he : e.ok) (ho : ops e = q.flatMap ops ++ [s]) : Forms (L ++ [s]) (r ++ [e]) := by
  refine ⟨?_, fun x hx => ?_⟩
  · rw [← h.1]
    simp [ho]
  · simp only [List.mem_append, List.mem_singleton] at hx
    rcases hx with hx | rfl
    · exact h.2 x (by simp [hx])
    · exact he
theorem kind_cases {k : Int} (h : 0 ≤ kOps k) : k = 1 ∨ k = 2 ∨ k = 3 ∨ k = 4 ∨ (k = 5 ∨ k = 6 ∨ k = 7) := by
  unfold kOps at h
  split at h
  · omega
  · split at h
    · omega
    · split at h
      · omega
      · omega
theorem next_of {L : List Stp} {k : Nat} (hk : k < L.length) (hG : Goes L 0) (hw : ∀ s ∈ L, s.wide) (hF : Forms (L.take k) (trees L k)) :
    Next (L.getD k default) (trees L k) (trees L (k + 1)) ∧ Forms (L.take (k + 1)) (trees L (k + 1)) := by
  have hget : L.getD k default = L[k] := by rw [List.getD_eq_getElem?_getD, List.getElem?_eq_getElem hk]; rfl
  have htk : L.take (k + 1) = L.take k ++ [L[k]] := (List.take_append_getElem hk).symm
  have htr : trees L (k + 1) = (pushE L[k] (treeGo (L.take k) [])).reverse := by
    unfold trees
    rw [htk, treeGo_append]
    rfl
  have hsp : L = L.take k ++ (L[k] :: L.drop (k + 1)) := by
    rw [List.getElem_cons_drop, List.take_append_drop]
  have hG2 := hG
  rw [hsp, goes_append] at hG2
  obtain ⟨⟨hg0, hpl⟩, hle, _⟩ := hG2.2
  rw [← hF.1, flat_net _ hF.2] at hle
  have hwd := hw L[k] (List.getElem_mem hk)
  rw [hget, htr, htk]
  unfold trees at hF hle ⊢
  generalize treeGo (L.take k) [] = t at *
  generalize L[k] = s at *
  generalize L.take k = M at *
  rw [List.length_reverse] at hle
  have hko : ∀ j, s.k = j → j ≠ 1 → s = kStp j := fun j hj h1 => by
    rcases hpl with h | ⟨h2, h3, h4, h5⟩
    · omega
    · obtain ⟨k', a', b', c', d'⟩ := s
      simp only at hj h2 h3 h4 h5
      subst hj h2 h3 h4 h5
      rfl
  rcases kind_cases hg0 with h | h | h | h | h
  · have hs := bitsE_step h hwd
    unfold pushE
    rw [if_pos h, List.reverse_cons]
    exact ⟨.set _ h hs, Forms.put (q := []) (by simpa using hF) trivial (by simpa [ops] using hs.symm)⟩
  · have hs := hko 2 h (by decide)
    unfold pushE
    rw [if_neg (by omega), if_pos h, List.reverse_cons]
    exact ⟨.emp _ hs, Forms.put (q := []) (by simpa using hF) trivial (by simpa [ops] using hs.symm)⟩
  · have hs := hko 3 h (by decide)
    rw [h, show kOps 3 = 2 from rfl] at hle
    match t, hle with
    | b :: a :: r, _ =>
      unfold pushE
      rw [if_neg (by omega), if_neg (by omega), if_pos h]
      simp only [List.reverse_cons, List.append_assoc, List.cons_append, List.nil_append] at hF ⊢
      refine ⟨.cat _ a b hs, Forms.put (q := [a, b]) hF ⟨hF.2 a (by simp), hF.2 b (by simp)⟩ ?_⟩
      rw [hs]
      simp [ops]
    | [a], hle => simp at hle
    | [], hle => simp at hle
  · have hs := hko 4 h (by decide)
    rw [h, show kOps 4 = 2 from rfl] at hle
    match t, hle with
    | b :: a :: r, _ =>
      unfold pushE
      rw [if_neg (by omega), if_neg (by omega), if_neg (by omega), if_pos h]
      simp only [List.reverse_cons, List.append_assoc, List.cons_append, List.nil_append] at hF ⊢
      refine ⟨.alt _ a b hs, Forms.put (q := [a, b]) hF ⟨hF.2 a (by simp), hF.2 b (by simp)⟩ ?_⟩
      rw [hs]
      simp [ops]
    | [a], hle => simp at hle
    | [], hle => simp at hle
  · have hs := hko s.k rfl (by omega)
    have h1 : kOps s.k = 1 := by rcases h with h | h | h <;> rw [h] <;> rfl
    rw [h1] at hle
    match t, hle with
    | a :: r, _ =>
      unfold pushE
      rw [if_neg (by omega), if_neg (by omega), if_neg (by omega), if_neg (by omega)]
      simp only [List.reverse_cons] at hF ⊢
      refine ⟨.un _ a hs h, Forms.put (q := [a]) hF ⟨h, hF.2 a (by simp)⟩ ?_⟩
      simp [ops, ← hs]
    | [], hle => simp at hle
theorem forms_nil (L : List Stp) : Forms (L.take 0) (trees L 0) := ⟨rfl, by simp [trees, treeGo]⟩
theorem forms_at {L : List Stp} (hG : Goes L 0) (hw : ∀ s ∈ L, s.wide) : ∀ k, k ≤ L.length → Forms (L.take k) (trees L k)
  | 0, _ => forms_nil L
  | k + 1, h => (next_of (by omega) hG hw (forms_at hG hw k (by omega))).2
/-- A LIST THAT IS AN EXPRESSION: the steps of its tree, and of no other trees -/
theorem tree_of {L : List Stp} (hE : Expr L) (hw : ∀ s ∈ L, s.wide) : trees L L.length = [treeE L] ∧ (treeE L).ok ∧ ops (treeE L) = L := by
  have h := forms_at hE.1 hw L.length (Nat.le_refl _)
  have hn := flat_net _ h.2
  rw [h.1, List.take_length, hE.2] at hn
  unfold trees treeE at *
  rw [List.take_length] at *
  generalize treeGo L [] = t at *
  rw [List.length_reverse] at hn
  match t, hn with
  | [e], _ =>
    refine ⟨rfl, h.2 e (by simp), ?_⟩
    simpa using h.1
  | [], hn => simp at hn
  | a :: b :: r, hn => simp at hn; omega
theorem shSet_len (f : Nat → Bool) : (shSet f).length ≤ 1203 := by
  have h1 := runs_len _ f (Nat.le_refl _)
  have h2 := runs_len _ (fNot f) (Nat.le_refl _)
  have hout : ∀ g, out g ≤ 2313 := fun g => by
    have h2 : out g ≤ sm (fun _ => 9) 257 := sm_le 257 fun b hb => by
      have := wt_le b
      split <;> omega
    have h3 : sm (fun _ => 9) 257 = 2313 := by decide +kernel
    omega
  have h3 := hout f
  have h4 := hout (fNot f)
  unfold shSet
  split
  · have := (chr_pos RT ((elems f).headD 0)).2
    omega
  · split
    · simp
    · split
      · simp only [List.length_append, List.length_cons, List.length_nil]; omega
      · simp only [List.length_append, List.length_cons, List.length_nil]; omega
theorem par_len (c : Bool) (t : List UInt8) : (par c t).length ≤ t.length + 2 := by
  unfold par
  split
  · simp only [List.length_append, List.length_cons, List.length_nil]; omega
  · omega
theorem showE_len : ∀ e : Ex, (showE e).length ≤ 1210 * (ops e).length
  | .set f => by
    have := shSet_len f
    simp only [showE, ops, List.length_cons, List.length_nil]; omega
  | .emp => by simp [showE, ops]
  | .cat a b => by
    have h1 := showE_len a
    have h2 := showE_len b
    have h3 := par_len (isAlt a.kind) (showE a)
    have h4 := par_len (isTwo b.kind) (showE b)
    simp only [showE, ops, List.length_append, List.length_cons, List.length_nil]; omega
  | .alt a b => by
    have h1 := showE_len a
    have h2 := showE_len b
    have h4 := par_len (isAlt b.kind) (showE b)
    simp only [showE, ops, List.length_append, List.length_cons, List.length_nil]; omega
  | .un k a => by
    have h1 := showE_len a
    have h3 := par_len (isTwo a.kind) (showE a)
    simp only [showE, ops, List.length_append, List.length_cons, List.length_nil]; omega
theorem tree_len {L : List Stp} {k : Nat} {es : List Ex} (hF : Forms (L.take k) es) {e : Ex} (he : e ∈ es) : (showE e).length ≤ 1210 * L.length := by
  have h1 := showE_len e
  have h2 : (ops e).length ≤ (es.flatMap ops).length := by
    obtain ⟨a, b, rfl⟩ := List.append_of_mem he
    simp only [List.flatMap_append, List.flatMap_cons, List.length_append]
    omega
  rw [hF.1, List.length_take] at h2
  have : 1210 * (ops e).length ≤ 1210 * L.length := Nat.mul_le_mul_left _ (by omega)
  omega
end Go.Proofs.YthiiinbkkjacbaaDoor

/- A region that draws its order, whose own operations only read, and whose callees may lay blocks but hand back plain values: walked once, in the text's order. -/
namespace Go.Proofs.YthiiinbkkjacbaaDoor
open Go.RowKit

/-- a world behind w: of what was there nothing has turned -/
structure Later (w : World) where
  at' : World
  ok : Below w.heap.size w at'
instance later_one (w : World) : Nonempty (Later w) := ⟨⟨w, Below.refl _ _⟩⟩
theorem wp_region_later {P : Program} {id : Nat} {Q : Exit → Act → World → Prop} {a : Act} {w : World} {l : List Oper} (hm : P.follows .mixedOrders = true) (hB : Region.lexB .any l.toArray = true)
    (h : wpQuiet P l.toArray (fun w' => ∃ p : Later w, w' = p.at') (fun a' => ∀ w', (∃ p : Later w, w' = p.at') → Q .normal a' w') l a) : (Code.region id l.toArray true).wp P Q a w :=
  wp_region_quiet (C := fun w' => ∃ p : Later w, w' = p.at') hm hB ⟨⟨w.drew, (Below.refl _ _).drew⟩, rfl⟩ (by simpa using h)
theorem Later.cell {w : World} {a : Addr} {v : Value} (h : w.cell? a = some v) (ha : a.block < w.heap.size) (p : Later w) : p.at'.cell? a = some v := (p.ok.cell ha).trans h
theorem Later.calls {P : Program} {f : FuncId} {args : Array Value} {w : World} {p : Later w} {v : Value}
    (h : Calls P f args p.at' fun e w' => e = .returned v ∧ Below p.at'.heap.size p.at' w') : Calls P f args p.at' fun e w'' => e = .returned v ∧ ∃ q : Later w, w'' = q.at' :=
  h.mono fun _ w'' ⟨he, hb⟩ => ⟨he, ⟨w'', below_after p.ok hb⟩, rfl⟩
theorem Later.same {P : Program} {f : FuncId} {args : Array Value} {w : World} {p : Later w} {v : Value}
    (h : Calls P f args p.at' fun e w' => e = .returned v ∧ p.at' = w') : Calls P f args p.at' fun e w'' => e = .returned v ∧ ∃ q : Later w, w'' = q.at' :=
  h.mono fun _ _ ⟨he, hb⟩ => ⟨he, p, hb.symm⟩
theorem PairAt.later0 {t : TypeId} {w : World} {B : Nat} {a b : Int} (h : PairAt t w B a b) (p : Later w) : p.at'.cell? ⟨B, 0, none⟩ = some (.int .i64 a) := Later.cell h.facts.1 h.lt p
theorem PairAt.later1 {t : TypeId} {w : World} {B : Nat} {a b : Int} (h : PairAt t w B a b) (p : Later w) : p.at'.cell? ⟨B, 1, none⟩ = some (.int .i64 b) := Later.cell h.facts.2.1 h.lt p
end Go.Proofs.YthiiinbkkjacbaaDoor
