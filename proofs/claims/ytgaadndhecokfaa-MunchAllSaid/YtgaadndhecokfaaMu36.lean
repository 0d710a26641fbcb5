/- DfPaths, DfAfter, DfFrom, DfRBuild, put together. -/
import Derived.Test.YtgaadndhecokfaaMu35
import Derived.Test.YtgaadndhecokfaaMu05
import Derived.Laws.MakeOwn
import Derived.Test.YtgaadndhecokfaaMu29
import Derived.Test.YtgaadndhecokfaaMu24
import Derived.Test.YtgaadndhecokfaaMu03
import Derived.StillTailTactics
import Derived.Deep.RegionLaw
import Derived.Deep.CutRange
/- A net made ready for being followed: its block of 13 cells, what lies behind them; a list of bytes in a far block. -/
namespace Go.Proofs.Ytgaadndhecokfaa
open Go.RowKit Go.Lib Go.Joins

theorem But.cell {n : Nat} {X : Nat → Prop} {w w' : World} (h : But n X w w') {p : Addr} (h1 : p.block < n) (h2 : ¬ X p.block) : w'.cell? p = w.cell? p := World.cell?_of_block (h.block _ h1 h2)
theorem TabAt.mk (w : World) (t : TypeId) (n : Nat) (v : Value) : TabAt (w.alloc (.cells (madeCells #[v] n) t)) w.heap.size t n (fun _ => v) := by
  have h := TabAt.made w t n v
  have e : madeCells #[v] n = Array.replicate n v := by
    refine Array.toList_inj.1 ?_
    rw [toList_madeCells_one, Array.toList_replicate]
  rw [e]
  exact h
theorem TabAt.below {w w' : World} {B : Nat} {t : TypeId} {n : Nat} {us : Nat → Value} (h : TabAt w B t n us) (hb : Below w.heap.size w w') : TabAt w' B t n us := h.at (hb.block B h.lt)
/-- a slice of bytes in a block of this kind -/
def ElB (P : Nat → Prop) (w : World) (v : Value) (l : List Nat) : Prop := ∃ a cap, v = .slice a l.length cap ∧ l.length ≤ cap ∧ cap ≤ maxLen ∧ (a = none → cap = 0) ∧ (0 < l.length → ∃ b off, a = some ⟨b, off, none⟩ ∧ P b ∧ ∀ i, i < l.length → w.cell? ⟨b, off + i, none⟩ = some (.int .u8 ((l.getD i 0 : Nat) : Int)))
theorem ElB.mono {P P' : Nat → Prop} {w w' : World} {v : Value} {l : List Nat} (h : ElB P w v l) (hk : ∀ k, P k → P' k ∧ w'.heap[k]? = w.heap[k]?) : ElB P' w' v l := by
  obtain ⟨a, cap, rfl, h1, h2, h3, h4⟩ := h
  refine ⟨a, cap, rfl, h1, h2, h3, fun hp => ?_⟩
  obtain ⟨b, off, e, hP, hc⟩ := h4 hp
  exact ⟨b, off, e, (hk b hP).1, fun i hi => (World.cell?_of_block (a := ⟨b, off + i, none⟩) (hk b hP).2).trans (hc i hi)⟩
def SeenAt (w : World) (SB n : Nat) (T : Nat → Int) : Prop := TabAt w SB 3 n (fun q => .int .i64 (T q))
theorem SeenAt.store {w : World} {SB n : Nat} {T : Nat → Int} (h : SeenAt w SB n T) (q : Nat) (x : Int) : SeenAt (w.setCell ⟨SB, q, none⟩ (.int .i64 x)) SB n (upd T q x) := by
  have h2 := TabAt.store h q (.int .i64 x)
  have e : upd (fun q => Value.int .i64 (T q)) q (.int .i64 x) = fun p => Value.int .i64 (upd T q x p) := by
    funext p
    unfold upd
    split <;> rfl
  rw [e] at h2
  exact h2
section
variable {G : Nat → Prop} {e0 P CB BF SB : Nat} {w w' : World} {vs vo vl vf v1 b1 : Value} {us : Nat → Value} {K : Nat → List Nat} {N : NetM}
end
/-- rising spots below n: at most n -/
theorem nodup_len {m : List Int} (hn : m.Nodup) {n : Nat} (hr : ∀ x ∈ m, 0 ≤ x ∧ x < (n : Int)) : m.length ≤ n := by
  have hs : (m.mergeSort fun x y => decide (x ≤ y)).Pairwise fun x y => x ≤ y := by
    have := List.pairwise_mergeSort (le := fun x y : Int => decide (x ≤ y)) (by intro a b c; simp; omega) (by intro a b; simp; omega) m
    exact this.imp fun h => by simpa using h
  have hp := List.mergeSort_perm m fun x y => decide (x ≤ y)
  have hd : (m.mergeSort fun x y => decide (x ≤ y)).Nodup := hp.nodup_iff.2 hn
  have e : (m.mergeSort fun x y => decide (x ≤ y)) = spI (hits (fun q => decide ((q : Int) ∈ m)) n) := by
    refine zup_ext ((List.pairwise_and_iff.2 ⟨hs, hd⟩).imp fun h => by omega) (spI_up (hits_up _ _)) fun x => ?_
    rw [hp.mem_iff, mem_spIZ]
    constructor
    · intro hx
      have := hr x hx
      exact ⟨x.toNat, by omega, (hits_mem _ _ _).2 ⟨by omega, by rw [decide_eq_true_eq, show ((x.toNat : Nat) : Int) = x by omega]; exact hx⟩⟩
    · rintro ⟨p, rfl, hp2⟩
      simpa using ((hits_mem _ _ _).1 hp2).2
  have h2 := congrArg List.length e
  rw [List.length_mergeSort, spI_len] at h2
  have := hits_len (fun q => decide ((q : Int) ∈ m)) n
  omega
/-- what has been met, and what has been seen -/
structure Met (N : NetM) (l : List Int) (st : Int) (k j : Nat) (m : List Int) (T : Nat → Int) : Prop where
  nd : m.Nodup
  mem : ∀ x, x ∈ m ↔ MetL N l k j x
  seen : ∀ q, q < N.sets.length → T q ≤ st ∧ (T q = st ↔ (q : Int) ∈ m)
  rng : ∀ x ∈ m, 0 ≤ x ∧ x < (N.sets.length : Int)
section
variable {N : NetM} {l : List Int} {st : Int} {k j : Nat} {m : List Int} {T : Nat → Int}
theorem Met.len (h : Met N l st k j m T) : m.length ≤ N.sets.length := nodup_len h.nd h.rng
theorem Met.start (N : NetM) (l : List Int) {st : Int} {T : Nat → Int} (h : ∀ q, q < N.sets.length → T q < st) : Met N l st 0 0 [] T :=
  ⟨List.nodup_nil, fun x => ⟨fun h => by simp at h, fun h => absurd h (MetL.start N l x)⟩, fun q hq => ⟨Int.le_of_lt (h q hq), fun e => by have := h q hq; omega, fun h => by simp at h⟩, fun x hx => by simp at hx⟩
theorem Met.next (h : Met N l st k (N.fol.getD (l.getD k 0).toNat []).length m T) : Met N l st (k + 1) 0 m T := ⟨h.nd, fun x => (h.mem x).trans (MetL.next N l k x), h.seen, h.rng⟩
theorem Met.old (h : Met N l st k j m T) (hj : j < (N.fol.getD (l.getD k 0).toNat []).length) {q : Nat} (hq : (N.fol.getD (l.getD k 0).toNat []).getD j 0 = (q : Int)) (hn : q < N.sets.length) (ht : T q = st) : Met N l st k (j + 1) m T :=
  ⟨h.nd, fun x => by
    rw [MetL.more N l k j hj, hq, ← h.mem]
    exact ⟨.inl, fun h2 => h2.elim id fun e => e ▸ ((h.seen q hn).2.1 ht)⟩, h.seen, h.rng⟩
theorem Met.new (h : Met N l st k j m T) (hj : j < (N.fol.getD (l.getD k 0).toNat []).length) {q : Nat} (hq : (N.fol.getD (l.getD k 0).toNat []).getD j 0 = (q : Int)) (hn : q < N.sets.length) (ht : T q ≠ st) : Met N l st k (j + 1) (m ++ [(q : Int)]) (upd T q st) := by
  have hnot : (q : Int) ∉ m := fun e => ht ((h.seen q hn).2.2 e)
  refine ⟨?_, fun x => ?_, fun p hp => ?_, fun x hx => ?_⟩
  · rw [List.nodup_append]
    exact ⟨h.nd, by simp, fun a ha b hb => by
      simp only [List.mem_singleton] at hb
      subst hb
      exact fun e => hnot (e ▸ ha)⟩
  · rw [MetL.more N l k j hj, hq, ← h.mem, List.mem_append, List.mem_singleton]
  · by_cases e : p = q
    · subst e
      rw [upd_same]
      exact ⟨Int.le_refl _, fun _ => by simp, fun _ => rfl⟩
    · rw [upd_other _ _ e]
      refine ⟨(h.seen p hp).1, fun h2 => List.mem_append.2 (.inl ((h.seen p hp).2.1 h2)), fun h2 => ?_⟩
      rcases List.mem_append.1 h2 with h2 | h2
      · exact (h.seen p hp).2.2 h2
      · simp only [List.mem_singleton] at h2
        omega
  · rcases List.mem_append.1 hx with hx | hx
    · exact h.rng x hx
    · simp only [List.mem_singleton] at hx
      subst hx
      omega
end
end Go.Proofs.Ytgaadndhecokfaa

/- Contract of after: what follows the spots of a list, each once, sorted. -/
namespace Go.Proofs.Ytgaadndhecokfaa
open Go.RowKit Go.Lib Go.Joins Go.Sort

section
variable {G : Nat → Prop} {e0 P CB BF SB : Nat} {w : World} {vs vo vl vf v1 b1 : Value} {us : Nat → Value} {K : Nat → List Nat} {N : NetM}
end
end Go.Proofs.Ytgaadndhecokfaa

/- Contract of from: for each class the spots that its bytes lead to. -/
namespace Go.Proofs.Ytgaadndhecokfaa
open Go.RowKit Go.Lib Go.Joins

def iV (x : Int) : Value := .int .i64 x
/-- the lists that are built: a table of slices, a row of the call's own each -/
def FromS (w1 : World) (W : Nat) (us : Nat → Value) (L : Nat → List Int) (wr : World) : Prop :=
  OwnR wr (fun k => k = w1.heap.size) w1.heap.size (rowsN 3 iV W us L) ∧ TabAt wr w1.heap.size 24 W us ∧ Below w1.heap.size w1 wr ∧ w1.heap.size + 1 ≤ wr.heap.size
theorem FromS.start (w1 : World) (W : Nat) {L : Nat → List Int} (hL : ∀ c, c < W → L c = []) : FromS w1 W (fun _ => .slice none 0 0) L (w1.alloc (.cells (madeCells #[.slice none 0 0] W) 24)) := by
  refine ⟨⟨fun r hr => ?_, ?_, fun r hr k hk => ?_, fun k hk => by simp; omega⟩, TabAt.mk _ _ _ _, (Below.refl _ _).alloc (Nat.le_refl _) _, by simp⟩
  · unfold rowsN at hr
    obtain ⟨i, hi, rfl⟩ := List.mem_map.1 hr
    simp only [hL i (List.mem_range.1 hi)]
    exact World.ownsRow_nil _ _ _ _
  · unfold rowsN
    rw [List.pairwise_map]
    exact List.pairwise_lt_range.imp fun _ => .inl rfl
  · unfold rowsN at hr
    obtain ⟨i, _, rfl⟩ := List.mem_map.1 hr
    cases hk
theorem FromS.row {w1 wr : World} {W : Nat} {us : Nat → Value} {L : Nat → List Int} (h : FromS w1 W us L wr) {c : Nat} (hc : c < W) : RowZ wr w1.heap.size (us c) (L c) := h.1.rows _ (rowsN_mem hc)
theorem FromS.kept {w1 wr w' : World} {W : Nat} {us : Nat → Value} {L : Nat → List Int} (h : FromS w1 W us L wr) (hb : Below wr.heap.size wr w') : FromS w1 W us L w' :=
  ⟨h.1.kept hb, h.2.1.at (hb.block _ h.2.1.lt), below_then h.2.2.1 (Nat.le_trans (Nat.le_succ _) h.2.2.2) hb, Nat.le_trans h.2.2.2 hb.size⟩
/-- a number more in one list -/
theorem FromS.put {w1 wr w' : World} {W : Nat} {us : Nat → Value} {L L' : Nat → List Int} (h : FromS w1 W us L wr) {c : Nat} (hc : c < W) {v' : Value} {x : Int} (hA : Appd wr w' w1.heap.size 3 1 (us c) v' ((L c).length + 1) ((L c).map iV ++ [iV x]))
    (hL : ∀ j, L' j = if j = c then L c ++ [x] else L j) : FromS w1 W (upd us c v') L' (w'.setCell ⟨w1.heap.size, c, none⟩ v') := by
  have hm := rowsN_get (t := 3) (f := iV) (us := us) (L := L) hc
  have hl : c < (rowsN 3 iV W us L).length := by rw [rowsN_len]; exact hc
  have hg := h.1.grow c hl ⟨3, 1, v', (L c ++ [x]).length, (L c ++ [x]).map iV⟩ (by rw [hm]; exact hA.grown) (by
    have := hA.own
    unfold R5.at
    simpa using this) (fun k hk => by rw [hm]; exact hA.at k hk)
  rw [rowsN_set v' (L c ++ [x]) hL] at hg
  have hob : (us c).ownBlock ≠ some w1.heap.size := fun e => h.1.out _ (rowsN_mem hc) _ e rfl
  exact ⟨hg.store rfl c v', (h.2.1.grown hA.grown hob).store c v', (h.2.2.1.grown hA.grown (Nat.le_trans (Nat.le_succ _) h.2.2.2) (fun k e => (h.1.lt (rowsN_mem hc) e).1)).setCell (Nat.le_refl _) _, by simpa using Nat.le_trans h.2.2.2 hA.grown.size⟩
theorem FromS.congr {w1 wr : World} {W : Nat} {us : Nat → Value} {L L' : Nat → List Int} (h : FromS w1 W us L wr) (hL : ∀ c, c < W → L c = L' c) : FromS w1 W us L' wr := by
  unfold FromS at *
  rw [rowsN_congr (t := 3) (f := iV) (us := us) hL] at h
  exact h
theorem row_slice14 {w : World} {base : Nat} {e : TypeId} {size : Nat} {v : Value} {n : Nat} {xs : List Value} (h : w.ownsRow base e size v n xs) : ∃ a c, v = .slice a n c := by
  rcases h.2 with ⟨rfl, rfl⟩ | ⟨g, cap, cur, rfl, _⟩
  · exact ⟨none, 0, rfl⟩
  · exact ⟨_, cap, rfl⟩
end Go.Proofs.Ytgaadndhecokfaa

/- Contract of the reference's Build. -/
namespace Go.Proofs.Ytgaadndhecokfaa
open Go.RowKit Go.Lib Go.Joins

/-- a machine, a number, an error -/
def RetB (w : World) (N : NetM) (most : Int) (e : Ending) (w' : World) : Prop := ∃ vn vl, e = .returned (.tuple #[dfaA (machB N most).cls (machB N most).width vn vl, .int .i64 (cntB N most), .int .i64 (errB N most)]) ∧ RdDfa w'.heap.size w' vn vl (machB N most) ∧ Below w.heap.size w w'
theorem retB_none {w w' : World} {N : NetM} {most x : Int} (hx : errB N most = x) (h0 : x ≠ 0) (hb : Below w.heap.size w w') : RetB w N most (.returned (.tuple #[dfaA zG 0 (.slice none 0 0) (.slice none 0 0), .int .i64 0, .int .i64 x])) w' := by
  subst hx
  refine ⟨.slice none 0 0, .slice none 0 0, ?_, ?_, hb⟩
  · unfold machB cntB
    rw [if_neg h0, if_neg h0]
    rfl
  · unfold machB
    rw [if_neg h0]
    exact ⟨⟨none, 0, rfl, by simp [noneD], by decide, fun _ => rfl, fun hp => by simp [noneD] at hp⟩, ⟨none, 0, rfl, by simp [noneD], by decide, fun _ => rfl, fun hp => by simp [noneD] at hp⟩, fun j _ => by simp [noneD]⟩
theorem sets_net {w : World} {a : Option Addr} {n c : Nat} {N : NetM} (h : RdS w.heap.size w (.slice a n c) N.sets) (hw : ∀ s ∈ N.sets, s.wide) (hn : n = N.sets.length) : Sets w a n (N.sets.map bitsE) := by
  subst hn
  refine ⟨by simp, fun hp => ?_⟩
  obtain ⟨a', cap, e, _, _, _, h4⟩ := h
  simp only [Value.slice.injEq] at e
  obtain ⟨rfl, _, _⟩ := e
  obtain ⟨b, off, e, hb, hc⟩ := h4 hp
  refine ⟨b, off, e, hb, fun i hi j hj => ?_⟩
  obtain ⟨x0, x1, x2, x3⟩ := hc i hi
  have hg : (N.sets.map bitsE).getD i fNone = bitsE (N.sets.getD i default) := by simp [List.getD_eq_getElem?_getD, hi]
  have hwd : (N.sets.getD i default).wide := hw _ (by rw [List.getD_eq_getElem?_getD, List.getElem?_eq_getElem hi]; exact List.getElem_mem hi)
  obtain ⟨m0, m1, m2, m3⟩ := bitsE_words hwd
  rw [hg]
  match j, hj with
  | 0, _ => rw [m0]; exact x0
  | 1, _ => rw [m1]; exact x1
  | 2, _ => rw [m2]; exact x2
  | 3, _ => rw [m3]; exact x3

/-- done: as many rows as lists -/
theorem built {N : NetM} {M k : Nat} {most : Int} (hr : rightB N = true) (hM : (M : Int) = most) (h1 : 1 ≤ most) (h2 : most ≤ 4096) (hk : (machS N k).1.length = k) (hkM : k ≤ M) : errB N most = 0 ∧ machB N most = machM N k ∧ cntB N most = k := by
  have e : machS N (M + 1) = machS N k := outS_end (goN N) (tokenM N) (widN N) hkM (Nat.le_of_eq hk)
  have hf : fndN N M = k := by unfold fndN; rw [e, hk]
  have h3 : most.toNat = M := by omega
  have he : errB N most = 0 := by
    unfold errB
    rw [if_neg (by simp [hr]), if_neg (by omega), h3, hf, if_neg (by omega)]
  exact ⟨he, by unfold machB; rw [if_pos he, h3, hf], by unfold cntB; rw [if_pos he, h3, hf]⟩
/-- the machine that is built comes back -/
theorem retB_done {w w0 wr w' : World} {base RB DB : Nat} {N : NetM} {k : Nat} {most : Int} {vn vl fv rv : Value} {us ws : List Value} {F : List (List Int)} {R : List Int} (h : DfSt w0 base wr RB DB (clsN N) (widN N) vn vl fv rv us ws (machS N k).2.1 (machS N k).2.2 F R)
    (hg : wr.grownBy w' (some RB)) (hb : Below w.heap.size w w') (hbt : errB N most = 0 ∧ machB N most = machM N k ∧ cntB N most = k) : RetB w N most (.returned (.tuple #[dfaA (clsN N) (widN N) vn vl, .int .i64 k, .int .i64 0])) w' := by
  obtain ⟨h1, h2, h3⟩ := hbt
  refine ⟨vn, vl, by rw [h2, h3, h1]; rfl, ?_, hb⟩
  rw [h2]
  have hk : ∀ j, FarR wr (XB RB DB) (rows4 vn vl fv rv us ws (machS N k).2.1 (machS N k).2.2 F R) j → j < w'.heap.size ∧ w'.heap[j]? = wr.heap[j]? := fun j hj =>
    ⟨Nat.lt_of_lt_of_le hj.1 hg.size, hg.block j hj.1 fun e => hj.2.1 (.inl (by simpa using e))⟩
  refine ⟨(h.elN.mono hk).reads (World.ownsRow.kept h.rowN hg (.inr fun e => h.own.out ⟨24, 1, vn, (machS N k).2.1.length, us⟩ (by simp [rows4]) RB e (.inl rfl))) fun _ hj => hj, ?_, fun j hj => Nat.lt_of_lt_of_le (cls_lt _ hj) (cntK_le _ 256)⟩
  have hL : RowZ w' base vl (machS N k).2.2 := World.ownsRow.kept h.rowL hg (.inr fun e => h.own.out ⟨3, 1, vl, (machS N k).2.2.length, (machS N k).2.2.map (Value.int .i64)⟩ (by simp [rows4]) RB e (.inl rfl))
  exact hL.reads
/-- something is loaded -/
theorem load_any14 {ops : Array Oper} {rest : List Oper} {o : Oper} {a : Act} {w : World} {Q : Exit → Act → World → Prop} (hgd : o.guard = none) {t : TypeId} {x : Operand} {p : Addr} {v : Value} (ho : o.op = .load t x) (hx : a.eval x = .pointer (some p))
    (hl : (loadVar t p).run Try.prog w = .ok v w) (h : wpList Try.prog ops Q rest (a.put o.dst v) w) : wpList Try.prog ops Q (o :: rest) a w :=
  wpList_plain hgd fun _ hK => by
    unfold Oper.wp execOp
    simp only [ho, hx, Instr.loadAt, Instr.sureAddr, Sem.run_bind, Sem.run_pure, Result.andThen_ok, hl]
    exact hK _ _ h
theorem wp_load_any {o : Oper} {a : Act} {w : World} {K : Act → World → Prop} {Q : Exit → Act → World → Prop} {t : TypeId} {x : Operand} {p : Addr} {v : Value} (ho : o.op = .load t x) (hx : a.eval x = .pointer (some p))
    (hl : (loadVar t p).run Try.prog w = .ok v w) (h : K (a.put o.dst v) w) : o.wp Try.prog a w K Q := by
  unfold Oper.wp execOp
  simp only [ho, hx, Instr.loadAt, Instr.sureAddr, Sem.run_bind, Sem.run_pure, Result.andThen_ok, hl]
  exact h
/-- the machine that is built, and a list beside it -/
def MidD (w0 : World) (base RB DB : Nat) (g : Nat → Nat) (wd : Int) (vn vl fv rv : Value) (us ws : List Value) (N : List (List Int)) (L : List Int) (F : List (List Int)) (R : List Int) (t : List Int) (tv : Value) (wx : World) : Prop :=
  DfSt w0 base wx RB DB g wd vn vl fv rv us ws N L F R ∧ ElR (FarR wx (XB RB DB) (rows4 vn vl fv rv us ws N L F R)) wx tv t
theorem ElR.form {P : Nat → Prop} {w : World} {v : Value} {l : List Int} (h : ElR P w v l) : ∃ a c, v = .slice a l.length c := by
  obtain ⟨a, c, rfl, _⟩ := h
  exact ⟨a, c, rfl⟩
theorem ElR.reads {P : Nat → Prop} {w : World} {v : Value} {l : List Int} (h : ElR P w v l) (hP : ∀ k, P k → k < w.heap.size) : RdZ w.heap.size w v l := by
  obtain ⟨a, c, e, k1, k2, k3, k4⟩ := h
  exact ⟨a, c, e, k1, k2, k3, fun hp => by
    obtain ⟨b, off, e, hPb, hc⟩ := k4 hp
    exact ⟨b, off, e, hP b hPb, hc⟩⟩
set_option maxHeartbeats 8000000 in
set_option maxRecDepth 100000 in
theorem rBuild_calls {w : World} {vs vo vl vf v1 : Value} {N : NetM} (most : Int) (h : RdNet w.heap.size w vs vo vl vf v1 N) (hw : ∀ s ∈ N.sets, s.wide) (hn : N.sets.length ≤ 900) (hf : ∀ i, (N.fol.getD i []).length ≤ 1000) :
    Calls Try.prog 22 #[.agg #[vs, vo, vl, vf, v1], .int .i64 most] w (RetB w N most) := by
  obtain ⟨sa, cs, rfl⟩ := h.sets.form
  have hba := (Below.refl w.heap.size w).alloc (Nat.le_refl _) (.cells #[.slice sa N.sets.length cs, vo, vl, vf, v1] 53)
  have hbx := net_box w (.slice sa N.sets.length cs) vo vl vf v1 53
  obtain ⟨w0, hw0⟩ : ∃ w0, w0 = w.alloc (.cells #[.slice sa N.sets.length cs, vo, vl, vf, v1] 53) := ⟨_, rfl⟩
  have hs0 : w0.heap.size = w.heap.size + 1 := by rw [hw0]; simp
  rw [← hw0] at hba hbx
  have HBA := hidden hba
  have HBX := hidden hbx
  have HW0 := hidden hw0
  have HS0 := hidden hs0
  have HN := hidden h
  have HW := hidden hw
  have HF := hidden hf
  have HN9 := hidden hn
  have hal := run_zero_dfa
  have hbu := run_build_dfa
  have hr0 : DfaAt (w0.alloc (.cells (dfaC zG 0 (.slice none 0 0) (.slice none 0 0)) 26)) (w.heap.size + 1) zG 0 (.slice none 0 0) (.slice none 0 0) := DfaAt.newAt hs0
  have HR0 := hidden hr0
  have HB0 := hidden ((Below.refl (w.heap.size + 1) w0).alloc (Nat.le_of_eq hs0.symm) (.cells (dfaC zG 0 (.slice none 0 0) (.slice none 0 0)) 26))
  have HBW0 := hidden (hba.alloc (Nat.le_trans (Nat.le_succ _) (Nat.le_of_eq hs0.symm)) (.cells (dfaC zG 0 (.slice none 0 0) (.slice none 0 0)) 26))
  obtain ⟨m0, m1, m2, m3, m4⟩ := HBX.out _ HB0.out
  rw [hw0] at m0 m1 m2 m3 m4
  clear h hw hf hba hbx hw0 hs0 hr0
  go_enter Try.func22, Try.ntmps22
  go_wp2_with fail
  rw [← HW0.out]
  obtain ⟨W1, hW1⟩ : ∃ W1, W1 = w0.alloc (.cells (dfaC zG 0 (.slice none 0 0) (.slice none 0 0)) 26) := ⟨_, rfl⟩
  rw [← hW1] at HR0 HB0 HBW0 ⊢
  clear hW1 m0 m1 m2 m3 m4
  refine (rright12_calls (HN.out.below HBW0.out HBW0.out.size)).mono ?_
  rintro e w1 ⟨rfl, hb1⟩
  have HR1 := hidden (HR0.out.below hb1)
  have HB1 := hidden (below_then HB0.out (by have := HB0.out.size; have := HS0.out; omega) hb1)
  have HBW1 := hidden (below_then HBW0.out HBW0.out.size hb1)
  obtain ⟨m0, m1, m2, m3, m4⟩ := HBX.out _ HB1.out
  clear hb1 HR0 HB0 HBW0
  cases hr : rightB N with
  | false =>
    have HE := hidden (show errB N most = 3 by unfold errB; rw [if_pos hr])
    clear hr
    go_wp2_with (refine store_dfa rfl (x := .tmp 4) (y := .tmp 18) rfl rfl rfl HR1.out rfl rfl ?_; intro w2 hA2 hg2 hs2; have HA2 := hidden hA2; have HB2 := hidden (HBW1.out.grown hg2 HBW1.out.size (by intro k hk; simp only [Option.some.injEq] at hk; omega)); clear hA2 hg2)
    exact ret_dfa3 Try.results22 rfl rfl rfl rfl HA2.out (retB_none HE.out (by decide) HB2.out)
  | true =>
    have HRT := hidden hr
    clear hr
    by_cases hrg : most < 1 ∨ 4096 < most
    · have HE := hidden (show errB N most = 2 by unfold errB; rw [if_neg (by simp [HRT.out]), if_pos hrg])
      rcases hrg with hrg | hrg
      · go_wp2_with (refine store_dfa rfl (x := .tmp 4) (y := .tmp 25) rfl rfl rfl HR1.out rfl rfl ?_; intro w2 hA2 hg2 hs2; have HA2 := hidden hA2; have HB2 := hidden (HBW1.out.grown hg2 HBW1.out.size (by intro k hk; simp only [Option.some.injEq] at hk; omega)); clear hA2 hg2)
        exact ret_dfa3 Try.results22 rfl rfl rfl rfl HA2.out (retB_none HE.out (by decide) HB2.out)
      · have h1 : ¬ most < 1 := by omega
        go_wp2_with (refine store_dfa rfl (x := .tmp 4) (y := .tmp 25) rfl rfl rfl HR1.out rfl rfl ?_; intro w2 hA2 hg2 hs2; have HA2 := hidden hA2; have HB2 := hidden (HBW1.out.grown hg2 HBW1.out.size (by intro k hk; simp only [Option.some.injEq] at hk; omega)); clear hA2 hg2)
        exact ret_dfa3 Try.results22 rfl rfl rfl rfl HA2.out (retB_none HE.out (by decide) HB2.out)
    · have h1 : ¬ most < 1 := by omega
      have h2 : ¬ 4096 < most := by omega
      clear hrg
      clear m0 m1 m2 m3 m4
      have HBS1 := hidden (show w.heap.size + 1 ≤ w1.heap.size by have := HB1.out.size; have := HS0.out; omega)
      go_wp2_with (first
        | (refine store_dfa rfl (x := .tmp 7) (y := .tmp 26) rfl rfl rfl (DfaAt.new w1 zG 0 (.slice none 0 0) (.slice none 0 0)) rfl rfl ?_; intro w2 hA2 hg2 hs2; have HA2 := hidden hA2
           have HR2 := hidden ((HR1.out.alloc (.cells (dfaC zG 0 (.slice none 0 0) (.slice none 0 0)) 26)).grown hg2 (by have := HR1.out.lt; simp only [ne_eq, Option.some.injEq]; omega))
           have HB2 := hidden ((HB1.out.alloc HBS1.out (.cells (dfaC zG 0 (.slice none 0 0) (.slice none 0 0)) 26)).grown hg2 (by have := HBS1.out; simp; omega) (by intro k hk; simp only [Option.some.injEq] at hk; have := HBS1.out; omega))
           have HBW2 := hidden ((HBW1.out.alloc HBW1.out.size (.cells (dfaC zG 0 (.slice none 0 0) (.slice none 0 0)) 26)).grown hg2 (by have := HBW1.out.size; simp; omega) (by intro k hk; simp only [Option.some.injEq] at hk; have := HBW1.out.size; omega))
           obtain ⟨m0, m1, m2, m3, m4⟩ := HBX.out _ HB2.out; clear hA2 hg2 hs2 m1 m2 m3 m4)
        | fail)
      refine (krof_calls sa N.sets.length cs (N.sets.map bitsE) w2 (by omega) (sets_net (HN.out.below HBW2.out HBW2.out.size).sets HW.out rfl)).mono ?_
      rintro e w3 ⟨rfl, hb3⟩
      have HA3 := hidden (HA2.out.below hb3)
      have HR3 := hidden (HR2.out.below hb3)
      have HB3 := hidden (below_then HB2.out (by have := HBS1.out; have := HA2.out.lt; omega) hb3)
      have HBW3 := hidden (below_then HBW2.out HBW2.out.size hb3)
      have HD3 := hidden (show w.heap.size + 1 ≤ w1.heap.size ∧ w.heap.size + 1 ≠ w1.heap.size ∧ w.heap.size + 1 ≤ w3.heap.size from ⟨HBS1.out, by have := HR1.out.lt; omega, by have := HBS1.out; have := HA3.out.lt; omega⟩)
      clear hb3 HA2 HR2 HB2 HBW2 m0 HBS1
      rw [show clsK (keyL (List.map bitsE N.sets)) = clsN N from rfl, show cntK (keyL (List.map bitsE N.sets)) 256 = widN N from rfl]
      go_wp2_with (first
        | (refine store_cls rfl (x := .tmp 33) (y := .tmp 31) rfl rfl rfl HA3.out ?_; intro w4 hA4 hg4 hs4; have HA4 := hidden hA4
           have HR4 := hidden (HR3.out.grown hg4 (by have := HD3.out.2.1; simp only [ne_eq, Option.some.injEq]; omega))
           have HB4 := hidden (HB3.out.grown hg4 HD3.out.2.2 (by intro k hk; simp only [Option.some.injEq] at hk; have := HD3.out.1; omega))
           have HS4 := hidden hs4; have k1 := hA4.width; have k2 := hA4.frozen 256; clear hA4 hg4 hs4)
        | fail)
      obtain ⟨w5, hw5⟩ : ∃ w5, w5 = w4.setCell ⟨w1.heap.size, 256, none⟩ (.int .i64 (widN N)) := ⟨_, rfl⟩
      have hs5 : w5.heap.size = w4.heap.size := by rw [hw5]; simp
      have hst := DfSt.start (w := w5) (w0 := w0) (base := w.heap.size + 1) (RB := w.heap.size + 1) (DB := w1.heap.size) (g := clsN N) (wd := widN N) (by rw [hw5]; exact HA4.out.putWidth _) (by rw [hw5]; exact HR4.out.put _ HD3.out.2.1) HD3.out.2.1 ⟨Nat.le_refl _, HD3.out.1⟩ (by rw [hw5]; exact HB4.out.setCell HD3.out.1 _) (Nat.le_of_eq HS0.out.symm)
      rw [← hw5]
      rw [hs5] at hst
      obtain ⟨w6, hw6⟩ : ∃ w6, w6 = (w5.alloc (.cells #[] 3)).alloc (.cells #[.slice (some ⟨w4.heap.size, 0, none⟩) 0 0] 24) := ⟨_, rfl⟩
      rw [← hw6] at hst ⊢
      have HST := hidden hst
      have HNW := hidden (fun (wr : World) (hb : Below (w.heap.size + 1) w0 wr) => HN.out.below (hb.mono (Nat.le_succ _) |> fun x => HBA.out.trans x) (Nat.le_trans HBA.out.size (Nat.le_trans (Nat.le_of_eq rfl) hb.size)))
      clear hw5 hs5 hw6 hst k1 k2 HA4 HR4 HB4 HS4 HR3 HB3 HBW3 HA3 HB1 HR1 HBW1
      obtain ⟨M, hM⟩ : ∃ M : Nat, (M : Int) = most := ⟨most.toNat, by omega⟩
      have HM := hidden hM
      have HMM := hidden (show (M : Int) ≤ 4096 ∧ 1 ≤ M by omega)
      go_loopw [8, 9] (fun fv i wr => ∃ k vn vl us ws, k ≤ (machS N k).1.length ∧ (machS N k).1.length ≤ M ∧ i = .int .i64 (k : Nat) ∧ DfSt w0 (w.heap.size + 1) wr (w.heap.size + 1) w1.heap.size (clsN N) (widN N) vn vl fv (.slice none 0 0) us ws (machS N k).2.1 (machS N k).2.2 (machS N k).1 []) (fun _ i _ => M + 1 - (Go.RowKit.intOf i).toNat)
      case atStart => exact ⟨0, _, _, _, _, Nat.zero_le _, HMM.out.2, rfl, HST.out⟩
      case round =>
        obtain ⟨k, vn, vl', us, ws, hk, hkM, rfl, hS⟩ := hrel
        obtain ⟨fa, fc, hfv⟩ := hS.found.form
        subst hfv
        have HS := hidden hS
        have HK := hidden (show (machS N k).1.length ≤ M from hkM)
        obtain ⟨F, hF⟩ : ∃ F, F = (machS N k).1 := ⟨_, rfl⟩
        obtain ⟨n, hn1⟩ : ∃ n, n = F.length := ⟨_, rfl⟩
        have HFe := hidden hF
        have HNe := hidden hn1
        rw [← hF, ← hn1] at hk hkM
        rw [← hF] at HS HK
        rw [← hF, ← hn1]
        clear hS hF hn1 HST
        by_cases hlt : k < n
        · go_wp2_with fail
          have HSn := hidden HS.out.newR
          have HWD := hidden (show widN N ≤ 256 from cntK_le _ 256)
          have HLT := hidden (show ∀ j, j < 256 → clsN N j < 256 from fun j hj => Nat.lt_of_lt_of_le (cls_lt _ hj) (cntK_le _ 256))
          obtain ⟨wi, hwi⟩ : ∃ wi, wi = wr.alloc (.cells #[] 3) := ⟨_, rfl⟩
          rw [← hwi] at HSn ⊢
          clear hwi
          go_loopw [8, 10, 11] (fun fv rv i wq => ∃ c ws', c ≤ widN N ∧ i = .int .i64 (c : Nat) ∧ (rowS (goN N) k F c).1.length ≤ M ∧ DfSt w0 (w.heap.size + 1) wq (w.heap.size + 1) w1.heap.size (clsN N) (widN N) vn vl' fv rv us ws' (machS N k).2.1 (machS N k).2.2 (rowS (goN N) k F c).1 (rowS (goN N) k F c).2) (fun _ _ i _ => widN N - (Go.RowKit.intOf i).toNat)
          case atStart =>
            refine ⟨0, ws, Nat.zero_le _, rfl, HK.out, ?_⟩
            rw [HNe.out]
            exact HSn.out
          case round =>
            obtain ⟨c, ws', hc, rfl, hcM, hS⟩ := hrel
            obtain ⟨fa', fc', hfv⟩ := hS.found.form
            subst hfv
            obtain ⟨ra, rc, hrv⟩ := hS.rowR.form
            subst hrv
            have HQ := hidden hS
            have k1 := hS.d.width
            obtain ⟨G, hG⟩ : ∃ G, G = (rowS (goN N) k F c).1 := ⟨_, rfl⟩
            obtain ⟨R, hR⟩ : ∃ R, R = (rowS (goN N) k F c).2 := ⟨_, rfl⟩
            obtain ⟨n2, hn2⟩ : ∃ n, n = G.length := ⟨_, rfl⟩
            obtain ⟨r2, hr2⟩ : ∃ n, n = R.length := ⟨_, rfl⟩
            have HG := hidden hG
            have HR := hidden hR
            have HG2 := hidden hn2
            have HR2 := hidden hr2
            rw [← hG] at HQ hcM
            rw [← hR] at HQ
            rw [← hG, ← hR, ← hn2, ← hr2]
            rw [← hn2] at hcM
            obtain ⟨W, hWq⟩ : ∃ W, W = widN N := ⟨_, rfl⟩
            have HWq := hidden hWq
            have hW6 : W ≤ 256 := by have := HWD.out; omega
            rw [← hWq] at hc k1
            clear hS hG hR hn2 hr2 hWq HSn
            by_cases hcl : c < W
            · go_wp2_with (first | (refine load_any14 rfl (x := .tmp 50) rfl rfl (run_load_cls HQ.out.d) ?_) | (refine wp_load_any (x := .tmp 50) rfl rfl (run_load_cls HQ.out.d) ?_))
              refine (rbytes_calls (clsN N) (c : Int) _ HLT.out).mono ?_
              rintro e w7 ⟨v7, rfl, hrow, hb7⟩
              have HQ7 := hidden (HQ.out.kept hb7)
              obtain ⟨r, hr⟩ := lst_cons (netK N) (show c < cntK (netK N) 256 by have := HWq.out; unfold widN at this; omega)
              rw [show clsN N = clsK (netK N) from rfl, hr, List.map_cons] at hrow
              have hlf := (lf_is (netK N) (show c < cntK (netK N) 256 by have := HWq.out; unfold widN at this; omega)).1
              have HLF := hidden hlf
              obtain ⟨bb, hbb⟩ : ∃ b, b = lf (netK N) c := ⟨_, rfl⟩
              have HBB := hidden hbb
              rw [← hbb] at hrow
              obtain ⟨ln, hln⟩ : ∃ n, n = (bb :: r).length := ⟨_, rfl⟩
              have hln0 : 0 < ln := by rw [hln]; simp
              rw [← hln] at hrow
              rcases hrow.2 with ⟨_, h0⟩ | ⟨gb, cap, cur, rfl, _, hgb, _⟩
              · omega
              have hc0 : w7.cell? ⟨gb, 0, none⟩ = some (.int .u8 (bb : Int)) := by
                rw [World.ownsRow.cellAt hrow 0 (by omega)]; rfl
              have hFG : F <+: G := by rw [HG.out]; exact rowS_pre (goN N) k F (Nat.zero_le c)
              have hnn : n ≤ n2 := by have := hFG.length_le; have := HNe.out; have := HG2.out; omega
              have hgk : G.getD k [] = F.getD k [] := pre_getD hFG (by have := HNe.out; omega) []
              have hl9 : (F.getD k []).length ≤ 900 := by
                have hin : F.getD k [] ∈ F := by
                  rw [List.getD_eq_getElem?_getD, List.getElem?_eq_getElem (show k < F.length by have := HNe.out; omega)]
                  exact List.getElem_mem _
                rw [HFe.out] at hin ⊢
                refine outS_all (goN N) (tokenM N) (widN N) (P := fun l => l.length ≤ 900) (by simp) (fun i l c => ?_) k _ hin
                show (goN N i l c).length ≤ 900
                unfold goN
                split
                · rw [spI_len]; exact Nat.le_trans (startM_len N _) HN9.out
                · rw [spI_len]; exact Nat.le_trans (stepM_len N _ _) HN9.out
              have HQd := hidden (HQ7.out.kept (w' := w7.drew) (Below.refl _ _).drew)
              obtain ⟨m0, m1, m2, m3, m4⟩ := HBX.out _ HQd.out.below
              have hfd := HQd.out.found
              rw [← HG2.out] at hfd
              obtain ⟨fb, fo, a8, c8, rfl, _, hfc, hrd⟩ := RdZZ.at hfd (Below.refl _ _) k (by have := HG2.out; omega)
              rw [hgk] at hfc hrd
              have HL9 := hidden hl9
              obtain ⟨T, hT⟩ : ∃ T, T = F.getD k [] := ⟨_, rfl⟩
              have HT := hidden hT
              have HGK := hidden (show G.getD k [] = T from hgk.trans hT.symm)
              rw [← hT] at hfc hrd HL9
              obtain ⟨tl, htl⟩ : ∃ n, n = T.length := ⟨_, rfl⟩
              have HRD := hidden hrd
              have HTL := hidden htl
              rw [← htl] at hfc HRD
              have HND := hidden (HNW.out _ HQd.out.below)
              have hkn : (k : Int) < (n2 : Int) := by omega
              clear hb7 hr hlf hbb hln hrow hgb k1 hFG hgk hl9 hfd hrd hT htl HQ
              have hbb6 : bb < 256 := by have := HBB.out; have := HLF.out; omega
              go_wp2_with fail
              go_cut [13] from 44 to 90 (fun tv wx => MidD w0 (w.heap.size + 1) (w.heap.size + 1) w1.heap.size (clsN N) (widN N) vn vl' (.slice (some ⟨fb, fo, none⟩) G.length fc') (.slice ra R.length rc) us ws' (machS N k).2.1 (machS N k).2.2 G R (spI (stepM N T bb)) tv wx)
              case first =>
                have HB6 := hidden hbb6
                clear hbb6 HQ7
                rw [HTL.out] at hfc HRD
                go_region_law ((go_simp; refine (rStep_calls (b := bb) HND.out HW.out (by have := HN9.out; omega) HRD.out HB6.out HF.out HL9.out).mono ?_; rintro e w8 ⟨v8, rfl, hr8, hb8⟩; have HM8 := hidden (⟨HQd.out.kept hb8, (HQd.out.kept (Below.refl _ _)).fresh hr8⟩ : MidD w0 (w.heap.size + 1) (w.heap.size + 1) w1.heap.size (clsN N) (widN N) vn vl' (.slice (some ⟨fb, fo, none⟩) G.length fc') (.slice ra R.length rc) us ws' (machS N k).2.1 (machS N k).2.2 G R (spI (stepM N T bb)) v8 w8); clear hr8 hb8; dsimp only))
                all_goals (try go_wp2_with fail)
                all_goals go_meet
                all_goals exact HM8.out
              case rest =>
                obtain ⟨hQ8, hE8⟩ := hcut
                obtain ⟨a9, c9, hv9⟩ := hE8.form
                subst hv9
                have HQ8 := hidden hQ8
                have HE8 := hidden hE8
                obtain ⟨p0, p1, p2, p3, p4⟩ := HBX.out _ hQ8.below
                have HND8 := hidden (HNW.out _ hQ8.below)
                have HGO := hidden (show goN N k T c = if k = 0 then spI (startM N bb) else spI (stepM N T bb) by unfold goN; rw [HBB.out])
                have HB6 := hidden hbb6
                clear hQ8 hE8 hbb6 hc0 m0 m1 m2 m3 m4 hfc HRD HND HQd HQ7 hln0
                go_upto_if 64 with (fail)
                go_cut [13] from 44 to 90 (fun tv wx => MidD w0 (w.heap.size + 1) (w.heap.size + 1) w1.heap.size (clsN N) (widN N) vn vl' (.slice (some ⟨fb, fo, none⟩) G.length fc') (.slice ra R.length rc) us ws' (machS N k).2.1 (machS N k).2.2 G R (goN N k T c) tv wx)
                case first =>
                  by_cases hk0 : k = 0
                  · have q1 : ((k : Int) == 0) = true := by simp [hk0]
                    have q2 : decide ((k : Int) = 0) = true := by simp [hk0]
                    have HK0 := hidden hk0
                    clear hk0
                    go_wp2_with fail
                    refine (rstart_calls (b := bb) HND8.out HW.out (by have := HN9.out; omega) HB6.out).mono ?_
                    rintro e w9 ⟨v9, rfl, hr9, hb9⟩
                    have HM9 := hidden (⟨HQ8.out.kept hb9, HQ8.out.fresh hr9⟩ : MidD w0 (w.heap.size + 1) (w.heap.size + 1) w1.heap.size (clsN N) (widN N) vn vl' (.slice (some ⟨fb, fo, none⟩) G.length fc') (.slice ra R.length rc) us ws' (machS N k).2.1 (machS N k).2.2 G R (spI (startM N bb)) v9 w9)
                    clear hr9 hb9 q1 q2
                    go_wp2_with fail
                    go_meet
                    rw [HGO.out, if_pos HK0.out]
                    exact HM9.out
                  · have q1 : ((k : Int) == 0) = false := by simp [hk0]
                    have q2 : decide ((k : Int) = 0) = false := by simp [hk0]
                    have HK0 := hidden hk0
                    clear hk0
                    go_wp2_with fail
                    go_meet
                    rw [HGO.out, if_neg HK0.out]
                    exact ⟨HQ8.out, HE8.out⟩
                case rest =>
                  obtain ⟨hQ9, hE9⟩ := hcut
                  obtain ⟨X, hX⟩ : ∃ X, X = goN N k T c := ⟨_, rfl⟩
                  have HX := hidden hX
                  rw [← hX] at hE9
                  obtain ⟨aX, cX, hvX⟩ := hE9.form
                  subst hvX
                  have HQ9 := hidden hQ9
                  have HE9 := hidden hE9
                  have HRX := hidden (hE9.reads fun _ hk => hk.1)
                  obtain ⟨xl, hxl⟩ : ∃ n, n = X.length := ⟨_, rfl⟩
                  have HXL := hidden hxl
                  rw [← hxl]
                  have HFD := hidden hQ9.found
                  rw [← hxl] at HRX
                  rw [← HG2.out] at HFD
                  clear hX hQ9 hE9 hxl p0 p1 p2 p3 p4 HQ8 HE8 HND8 HGO
                  go_wp2_with fail
                  refine (find14_calls HFD.out HRX.out).mono ?_
                  rintro e w10 ⟨rfl, hb10⟩
                  have HM10 := hidden (⟨HQ9.out.kept hb10, HE9.out.mono (StayR.below hb10)⟩ : MidD w0 (w.heap.size + 1) (w.heap.size + 1) w1.heap.size (clsN N) (widN N) vn vl' (.slice (some ⟨fb, fo, none⟩) G.length fc') (.slice ra R.length rc) us ws' (machS N k).2.1 (machS N k).2.2 G R X (.slice aX X.length cX) w10)
                  clear hb10 HQ9 HE9 HRX HFD
                  have HCL := hidden (show rowS (goN N) k F (c + 1) = if X = [] then (G, R ++ [-1]) else if findI X G 0 < 0 then (G ++ [X], R ++ [(G.length : Int)]) else (G, R ++ [findI X G 0]) by
                    show clsS (goN N) k (rowS (goN N) k F c) c = _
                    rw [show rowS (goN N) k F c = (G, R) from Prod.ext HG.out.symm HR.out.symm]
                    unfold clsS
                    simp only [HGK.out, ← HX.out])
                  have hfl := findI_ge X G 0
                  obtain ⟨fi, hfi⟩ : ∃ x, x = findI X G 0 := ⟨_, rfl⟩
                  rw [← hfi] at HCL hfl ⊢
                  have HFI := hidden hfi
                  clear hfi
                  have HFL := hidden hfl
                  clear hfl
                  go_upto_if 73 with (fail)
                  go_cut [8, 14] from 44 to 90 (fun fv av wx => ∃ ws2 x, av = .int .i64 x ∧ DfSt w0 (w.heap.size + 1) wx (w.heap.size + 1) w1.heap.size (clsN N) (widN N) vn vl' fv (.slice ra R.length rc) us ws2 (machS N k).2.1 (machS N k).2.2 (rowS (goN N) k F (c + 1)).1 R ∧ (rowS (goN N) k F (c + 1)).2 = R ++ [x])
                  case first =>
                    by_cases hx0 : X = []
                    · have hz : xl = 0 := by rw [HXL.out, hx0]; rfl
                      have q1 : ((xl : Int) == 0) = true := by simp [hz]
                      have q2 : decide ((xl : Int) = 0) = true := by simp [hz]
                      have HX0 := hidden hx0
                      clear hx0 hz
                      go_wp2_with fail
                      go_meet
                      rw [HCL.out, if_pos HX0.out, HG2.out]
                      exact ⟨ws', -1, rfl, HM10.out.1, rfl⟩
                    · have hz : xl ≠ 0 := by
                        rw [HXL.out]
                        intro e
                        exact hx0 (List.eq_nil_of_length_eq_zero e)
                      have q1 : ((xl : Int) == 0) = false := by simp [hz]
                      have q2 : decide ((xl : Int) = 0) = false := by simp [hz]
                      have HX0 := hidden hx0
                      clear hx0 hz
                      by_cases hneg : fi < 0
                      · have HNEG := hidden hneg
                        have hal2 : Below w10.heap.size w10 (w10.alloc (.cells #[.slice aX xl cX] 24)) := (Below.refl w10.heap.size w10).alloc (Nat.le_refl _) _
                        have HQa := hidden (HM10.out.1.kept hal2)
                        have HEa := hidden (HM10.out.2.mono (StayR.below hal2))
                        have hown := HQa.out.rowF
                        rw [← HG2.out] at hown
                        have HOW := hidden hown
                        have HI := hidden infoZZ
                        have HBS := hidden HQa.out.sz
                        have HLN := hidden (show n2 + 1 ≤ 1000000 by have := HMM.out; omega)
                        clear hown hal2
                        go_wp2_with (at_builtin; (first | refine wpList_app (v := .slice (some ⟨fb, fo, none⟩) n2 fc') rfl _ _ rfl HI.out Try.underlying23 rfl (by decide) (by decide) rfl HOW.out rfl (Src.one w10 (.slice aX xl cX) 24 _ rfl) (by simp) (by simp [Value.oneCell']) HLN.out HBS.out ?_ | refine wp_app (v := .slice (some ⟨fb, fo, none⟩) n2 fc') _ _ rfl HI.out Try.underlying23 rfl (by decide) (by decide) rfl HOW.out rfl (Src.one w10 (.slice aX xl cX) 24 _ rfl) (by simp) (by simp [Value.oneCell']) HLN.out HBS.out ?_); intro v11 w11 hA; have HA11 := hidden hA; obtain ⟨a11, c11, hv11⟩ := row_slice14 hA.own; subst hv11; clear hA)
                        go_meet
                        have hA := HA11.out
                        have hQa := HQa.out
                        rw [← HG2.out] at hQa
                        rw [HCL.out, if_neg HX0.out, if_pos HNEG.out]
                        refine ⟨ws' ++ [.slice aX xl cX], n2, rfl, ?_, by rw [HG2.out]⟩
                        rw [HG2.out] at hA
                        rw [HG2.out]
                        have hEa := HEa.out
                        rw [← HXL.out] at hEa
                        exact HQa.out.putF hEa hA
                      · have HNEG := hidden hneg
                        go_wp2_with fail
                        go_meet
                        rw [HCL.out, if_neg HX0.out, if_neg (by have := HNEG.out; omega), HG2.out]
                        exact ⟨ws', fi, rfl, HM10.out.1, rfl⟩
                  case rest =>
                    obtain ⟨ws2, x, hx, hQ2, hrow⟩ := hcut
                    subst hx
                    obtain ⟨G', hG'⟩ : ∃ G', G' = (rowS (goN N) k F (c + 1)).1 := ⟨_, rfl⟩
                    have HG' := hidden hG'
                    rw [← hG'] at hQ2
                    obtain ⟨f2, e2, hf2⟩ := hQ2.found.form
                    subst hf2
                    obtain ⟨g2, hg2⟩ : ∃ n, n = G'.length := ⟨_, rfl⟩
                    have HGL := hidden hg2
                    rw [← hg2]
                    have HQ2 := hidden hQ2
                    have HROW := hidden hrow
                    clear hQ2 hrow hg2 hG' HM10 HCL HFI HFL
                    by_cases ho : M < g2
                    · have hoi : most < (g2 : Int) := by have := HM.out; omega
                      have HO := hidden ho
                      clear ho
                      have HE := hidden (show errB N most = 16 by
                        unfold errB
                        have h3 : (most.toNat : Nat) = M := by have := HM.out; omega
                        rw [if_neg (by simp [HRT.out]), if_neg (by omega), h3, if_pos]
                        have hk' : k < (outS (goN N) (tokenM N) (widN N) k).1.length := by
                          have h4 := HFe.out
                          unfold machS at h4
                          rw [← h4, ← HNe.out]; exact hlt
                        have hov := outS_over (goN N) (tokenM N) (widN N) (i := k) (m := M) (c := c + 1) (by omega) hk' (by have := HWq.out; omega) (by
                          have h4 := HFe.out
                          unfold machS at h4
                          rw [← h4, ← HG'.out, ← HGL.out]; exact HO.out)
                        have hov' : M < fndN N M := hov
                        have := HM.out
                        omega)
                      go_wp2_with (first
                        | (refine store_dfa rfl (x := .tmp 4) (y := .tmp 86) rfl rfl rfl HQ2.out.r rfl rfl ?_; intro w12 hA2 hg2 hs2; have HA2 := hidden hA2; have HB2 := hidden (HBA.out.trans ((HQ2.out.below.mono (Nat.le_succ _)).grown hg2 (by have := HQ2.out.sz; omega) (by intro k hk; simp only [Option.some.injEq] at hk; omega))); clear hA2 hg2)
                        | fail)
                      exact ret_dfa3 Try.results22 rfl rfl rfl rfl HA2.out (retB_none HE.out (by decide) HB2.out)
                    · have hoi : (g2 : Int) ≤ most := by have := HM.out; omega
                      have HO := hidden ho
                      clear ho
                      have hal3 : Below wc.heap.size wc (wc.alloc (.cells #[.int .i64 x] 3)) := (Below.refl wc.heap.size wc).alloc (Nat.le_refl _) _
                      have HQc := hidden (HQ2.out.kept hal3)
                      have hown := HQc.out.rowR
                      have hown' : (wc.alloc (.cells #[.int .i64 x] 3)).ownsRow (w.heap.size + 1) 3 1 (.slice ra r2 rc) r2 (R.map (Value.int .i64)) := by rw [HR2.out]; exact hown
                      have HOW := hidden hown'
                      have HI := hidden infoInt
                      have HBS := hidden HQc.out.sz
                      have HRL := hidden (show r2 = c by
                        have h5 : k < F.length := by rw [← HNe.out]; exact hlt
                        have hok := outS_ok (goN N) (tokenM N) (widN N) k (by have h4 := HFe.out; unfold machS at h4; rw [← h4]; omega)
                        have h6 := HFe.out
                        unfold machS at h6
                        have h7 := (rowS_ok (goN N) (i := k) (F := F) (by rw [h6]; exact hok.1) h5 c).2.1
                        rw [HR2.out, HR.out]; exact h7)
                      have HLN := hidden (show r2 + 1 ≤ 1000000 by have := HRL.out; have := HWD.out; have := HWq.out; omega)
                      clear hown hown' hal3
                      go_wp2_with (at_builtin; (first | refine wpList_app (v := .slice ra r2 rc) rfl _ _ rfl HI.out Try.underlying24 rfl (by decide) (by decide) rfl HOW.out rfl (Src.one wc (.int .i64 x) 3 _ rfl) (by simp) (by simp [Value.oneCell']) HLN.out HBS.out ?_ | refine wp_app (v := .slice ra r2 rc) _ _ rfl HI.out Try.underlying24 rfl (by decide) (by decide) rfl HOW.out rfl (Src.one wc (.int .i64 x) 3 _ rfl) (by simp) (by simp [Value.oneCell']) HLN.out HBS.out ?_); intro v13 w13 hA; have HA13 := hidden hA; obtain ⟨a13, c13, hv13⟩ := row_slice14 hA.own; subst hv13; clear hA)
                      go_roundw
                      case rel =>
                        refine ⟨c + 1, ws2, by have := HWq.out; omega, by go_num, ?_, ?_⟩
                        · rw [← HG'.out, ← HGL.out]; have := HO.out; omega
                        · rw [← HG'.out, HROW.out, HGL.out]
                          have hA := HA13.out
                          have hQ := HQc.out
                          rw [HR2.out] at hA ⊢
                          exact hQ.putR hA
                      case measure => (have := HWq.out; show widN N - ((c : Int) + 1).toNat < widN N - (c : Int).toNat; omega)
            · have hcW : c = W := by omega
              obtain ⟨hD, hE⟩ := HQ.out.dropR
              obtain ⟨an, cn, hvn⟩ := hD.nexts.form
              have hmem := hD.off (r := ⟨24, 1, vn, (machS N k).2.1.length, us⟩) (by simp [rows4])
              subst hvn
              obtain ⟨al2, cl2, hvl2⟩ := hD.rowL.form
              subst hvl2
              have hkF : k < F.length := by rw [← HNe.out]; exact hlt
              have hlen := outS_lens (goN N) (tokenM N) (widN N) k (by have h4 := HFe.out; unfold machS at h4; rw [← h4]; omega)
              have HLEN := hidden (show (machS N k).2.1.length + 1 ≤ 1000000 ∧ (machS N k).2.2.length + 1 ≤ 1000000 by
                have e1 : (machS N k).2.1.length = k := hlen.1
                have e2 : (machS N k).2.2.length = k := hlen.2
                have := HMM.out
                omega)
              have hal := (Below.refl wr.heap.size wr).alloc (Nat.le_refl _) (.cells #[.slice ra r2 rc] 24)
              have HDa := hidden (hD.kept hal)
              have hEa := hE.mono (StayR.below hal)
              rw [← HR2.out] at hEa
              have HEa := hidden hEa
              have HBS := hidden HDa.out.sz
              have HI := hidden infoZZ
              have k2 := hD.d.next
              have HMEM := hidden hmem
              clear hD hE hal hEa hmem hlen
              go_wp2_with (at_builtin; (first | refine wpList_app (v := .slice an (machS N k).2.1.length cn) rfl _ _ rfl HI.out Try.underlying23 rfl (by decide) (by decide) rfl HDa.out.rowN rfl (Src.one wr (.slice ra r2 rc) 24 _ rfl) (by simp) (by simp [Value.oneCell']) HLEN.out.1 HBS.out ?_ | refine wp_app (v := .slice an (machS N k).2.1.length cn) _ _ rfl HI.out Try.underlying23 rfl (by decide) (by decide) rfl HDa.out.rowN rfl (Src.one wr (.slice ra r2 rc) 24 _ rfl) (by simp) (by simp [Value.oneCell']) HLEN.out.1 HBS.out ?_); intro v13 w13 hA; have HA13 := hidden hA; have HD13 := hidden (HDa.out.d.grown hA.grown HMEM.out.2); have r4 := HD13.out.next; have hf9 := HD13.out.frozen 257; obtain ⟨a13, c13, hv13⟩ := row_slice14 hA.own; subst hv13; clear hA)
              have HSN := hidden (DfSt.putN (t := R) HDa.out HEa.out HA13.out)
              clear r4 hf9 k2
              generalize w13.setCell ⟨w1.heap.size, 257, none⟩ (.slice a13 ((machS N k).2.1.length + 1) c13) = w14 at *
              have HSd := hidden (HSN.out.kept (w' := w14.drew) (Below.refl _ _).drew)
              obtain ⟨m0, m1, m2, m3, m4⟩ := HBX.out _ HSd.out.below
              have hfd := HSd.out.found
              rw [← HG2.out] at hfd
              have hFG : F <+: G := by rw [HG.out]; exact rowS_pre (goN N) k F (Nat.zero_le c)
              have hnn : n ≤ n2 := by have := hFG.length_le; have := HNe.out; have := HG2.out; omega
              obtain ⟨fb, fo, a8, c8, hfa, _, hfc, hrd⟩ := RdZZ.at hfd (Below.refl _ _) k (by have := HG2.out; omega)
              subst hfa
              have hl9 : (G.getD k []).length ≤ 900 := by
                rw [pre_getD hFG hkF []]
                have hin : F.getD k [] ∈ F := by
                  rw [List.getD_eq_getElem?_getD, List.getElem?_eq_getElem hkF]
                  exact List.getElem_mem _
                rw [HFe.out] at hin ⊢
                refine outS_all (goN N) (tokenM N) (widN N) (P := fun l => l.length ≤ 900) (by simp) (fun i l c => ?_) k _ hin
                show (goN N i l c).length ≤ 900
                unfold goN
                split
                · rw [spI_len]; exact Nat.le_trans (startM_len N _) HN9.out
                · rw [spI_len]; exact Nat.le_trans (stepM_len N _ _) HN9.out
              have HMK := hidden (show machS N (k + 1) = (G, (machS N k).2.1 ++ [R], (machS N k).2.2 ++ [tokenM N (G.getD k [])]) by
                have h4 := HFe.out
                have h5 : k < (outS (goN N) (tokenM N) (widN N) k).1.length := by
                  unfold machS at h4
                  rw [← h4]; exact hkF
                have h6 := outS_more (goN N) (tokenM N) (widN N) h5
                have h7 : c = widN N := hcW.trans HWq.out
                show outS (goN N) (tokenM N) (widN N) (k + 1) = _
                rw [h6]
                have h8 : (outS (goN N) (tokenM N) (widN N) k).1 = F := h4.symm
                rw [h8, show rowS (goN N) k F (widN N) = rowS (goN N) k F c by rw [h7], ← HG.out, ← HR.out]
                rfl)
              obtain ⟨T, hT⟩ : ∃ T, T = G.getD k [] := ⟨_, rfl⟩
              rw [← hT] at hfc hrd hl9 HMK
              obtain ⟨tk, htk⟩ : ∃ x, x = tokenM N T := ⟨_, rfl⟩
              rw [← htk] at HMK
              have HTK := hidden htk
              have HRD := hidden hrd
              have HL9 := hidden hl9
              have HND := hidden (HNW.out _ HSd.out.below)
              have HI2 := hidden infoInt
              have l4 := HSd.out.d.label
              have hkn2 : (k : Int) < (n2 : Int) := by omega
              have hkF' := hidden hkF
              obtain ⟨LB, hLB⟩ : ∃ x, x = (machS N k).2.2 := ⟨_, rfl⟩
              obtain ⟨NX, hNX⟩ : ∃ x, x = (machS N k).2.1 := ⟨_, rfl⟩
              rw [← hLB] at HSd HMK HLEN l4
              rw [← hNX] at HSd HMK HLEN
              obtain ⟨lq, hlq⟩ : ∃ n, n = LB.length := ⟨_, rfl⟩
              obtain ⟨tl, htl⟩ : ∃ n, n = T.length := ⟨_, rfl⟩
              have HLQ9 := hidden (show lq + 1 ≤ 1000000 by rw [hlq]; exact HLEN.out.2)
              rw [← hlq] at HSd l4
              have HTL := hidden htl
              rw [← htl] at hfc HRD HL9
              have HLR := hidden (fun (w' : World) {us : List Value} {vn : Value} {F : List (List Int)} {fv : Value} {ws : List Value} {Nn : List (List Int)} {R : List Int} {rv : Value} (h : DfSt w0 (w.heap.size + 1) w' (w.heap.size + 1) w1.heap.size (clsN N) (widN N) vn (.slice al2 lq cl2) fv rv us ws Nn LB F R) => (show w'.ownsRow (w.heap.size + 1) 3 1 (.slice al2 lq cl2) lq (LB.map (Value.int .i64)) ∧ (Value.slice al2 lq cl2).ownBlock ≠ some w1.heap.size from by
                have h1 := h.rowL
                have h2 := h.off (r := ⟨3, 1, .slice al2 lq cl2, LB.length, LB.map (Value.int .i64)⟩) (by simp [rows4])
                unfold RowZ at h1
                rw [← hlq] at h1
                exact ⟨h1, h2.2⟩))
              have HLQ := hidden hlq
              clear hT htk hrd hl9 hfd hFG hkF HSN HA13 HD13 HDa HEa HBS hLB hNX hlq htl
              go_wp2_with fail
              go_region_law (first
                | (go_simp; refine (rToken_calls HND.out HRD.out (by have := HL9.out; have := HTL.out; omega)).mono ?_; rintro e w5 ⟨rfl, hb5⟩; rw [← HTK.out]; have hS5 := HSd.out.kept hb5; have hal5 : Below w5.heap.size w5 (w5.alloc (.cells #[.int .i64 tk] 3)) := (Below.refl w5.heap.size w5).alloc (Nat.le_refl _) _; have HS6 := hidden (hS5.kept hal5); have l5 := hS5.d.label; have l6 := HS6.out.d.label; have HB7 := hidden HS6.out.sz; clear hal5 hb5 hS5; dsimp only)
                | (refine step_app (v := .slice al2 lq cl2) rfl _ _ rfl HI2.out Try.underlying24 rfl (by decide) (by decide) rfl (HLR.out _ HS6.out).1 rfl (Src.one _ (.int .i64 tk) 3 _ rfl) (by simp) (by simp [Value.oneCell']) HLQ9.out HB7.out ?_; intro v9 w9 hA9; have HA9 := hidden hA9; have HD9 := hidden (HS6.out.d.grown hA9.grown (HLR.out _ HS6.out).2); have r4 := HD9.out.label; have hf9 := HD9.out.frozen 258; obtain ⟨a9, c9, hv9⟩ := row_slice14 hA9.own; subst hv9; clear hA9))
              all_goals (have hS6 := HS6.out; have hA9 := HA9.out; rw [HLQ.out] at hS6 hA9; have hS := DfSt.putL hS6 hA9; rw [← HLQ.out] at hS; have HSF := hidden hS; clear hS hS6 hA9)
              all_goals (have HHK := hidden (show k + 1 ≤ G.length ∧ G.length ≤ M by have := HG2.out; omega))
              all_goals (clear HS6 HA9 HTK HRD HL9 HTL HLR HLQ HLEN HND HI2 HB7 HD9 HSd HQ)
              all_goals (clear m0 m1 m2 m3 m4 l4 l5 l6 r4 hf9 hfc hkn2 hnn k1 hcM)
              all_goals go_wp2_with fail
              all_goals go_roundw
              all_goals first
                | (have := HHK.out; show M + 1 - ((k : Int) + 1).toNat < M + 1 - (k : Int).toNat; omega)
                | (rw [HG2.out]; exact ⟨k + 1, _, _, _, _, by rw [HMK.out]; exact HHK.out.1, by rw [HMK.out]; exact HHK.out.2, by go_num, by rw [HMK.out]; exact HSF.out⟩)
        · have hkn : k = n := by omega
          obtain ⟨an, cn, hvn⟩ := HS.out.nexts.form
          subst hvn
          obtain ⟨al, cl, hvl⟩ := HS.out.rowL.form
          subst hvl
          have HBT := hidden (built HRT.out HM.out h1 h2 (k := k) (by rw [← HFe.out, ← HNe.out, hkn]) (by omega))
          have HD := hidden HS.out.d
          have HR' := hidden HS.out.r
          go_wp2_with (first
            | (refine load_dfa rfl (x := .tmp 7) rfl rfl HD.out ?_)
            | (refine wp_load_any (x := .tmp 7) rfl rfl (run_load_dfa HD.out) ?_)
            | (refine store_dfa rfl (x := .tmp 4) (y := .tmp 108) rfl rfl rfl HR'.out rfl rfl ?_; intro w12 hA2 hg2 hs2; have HA2 := hidden hA2; have HG2 := hidden hg2; have HB2 := hidden (HBA.out.trans ((HS.out.below.mono (Nat.le_succ _)).grown hg2 (by have := HS.out.sz; omega) (by intro k hk; simp only [Option.some.injEq] at hk; omega))); clear hA2 hg2)
            | fail)
          subst hkn
          exact ret_dfa3 Try.results22 rfl rfl rfl rfl HA2.out (retB_done HS.out HG2.out HB2.out HBT.out)
end Go.Proofs.Ytgaadndhecokfaa
