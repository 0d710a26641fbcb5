/- LvPAlive, LvRep, LvRen, LvPTrim, put together. -/
import Derived.Test.YtnjjbaodfjmiaaaGreatLt39
import Derived.Test.YtnjjbaodfjmiaaaGreatLt33
import Derived.Test.YtnjjbaodfjmiaaaGreatLt29
import Derived.Deep.LoopGhost
import Derived.Test.YtnjjbaodfjmiaaaGreatLt35
import Derived.Test.YtnjjbaodfjmiaaaGreatLt36
import Derived.Test.YtnjjbaodfjmiaaaGreatShelf
import Derived.Laws.CopyOwn
import Derived.Deep.RegionLaw
import Derived.StillTailTactics
import Derived.WalkMore
import Derived.Test.YtnjjbaodfjmiaaaGreatLt37
import Derived.Test.YtnjjbaodfjmiaaaGreatLt34
import Derived.Test.YtnjjbaodfjmiaaaGreatLt15
import Derived.Deep.CutRange
/- Contract of the program's alive, Alive. -/
namespace Go.Proofs.YtnjjbaodfjmiaaaGreat
open Go.RowKit Go.Lib Go.Joins

def zV (i : Nat) : Value := .int .i64 (i : Nat)
/-- what is found, and what waits -/
structure AlSt (base : Nat) (w : World) (FB LB RB : Nat) (qv : Value) (fnd : List Bool) (qs : List Nat) : Prop where
  f : Boxed w FB 30 (.slice (some ⟨RB, 0, none⟩) fnd.length fnd.length)
  r : RowAt w RB 4 Value.bool fnd
  l : Boxed w LB 24 qv
  q : QRow w base 3 1 qv qs.length (qs.map zV)
  lo : base ≤ FB ∧ base ≤ LB ∧ base ≤ RB
  nsz : base ≤ w.heap.size
section
variable {base : Nat} {w w' : World} {FB LB RB : Nat} {qv : Value} {fnd : List Bool} {qs : List Nat}
theorem AlSt.below (h : AlSt base w FB LB RB qv fnd qs) (hb : Below w.heap.size w w') : AlSt base w' FB LB RB qv fnd qs :=
  ⟨(hb.block _ h.f.lt).trans h.f, h.r.below hb, (hb.block _ h.l.lt).trans h.l, h.q.below hb, h.lo, Nat.le_trans h.nsz hb.size⟩
theorem AlSt.ne (h : AlSt base w FB LB RB qv fnd qs) : RB ≠ FB ∧ RB ≠ LB ∧ LB ≠ FB := by
  have h1 := h.f
  have h2 := h.r
  have h3 := h.l
  unfold Boxed at h1 h3
  unfold RowAt at h2
  refine ⟨fun e => ?_, fun e => ?_, fun e => ?_⟩
  · rw [e, h1] at h2; simp at h2
  · rw [e, h3] at h2; simp at h2
  · rw [e, h1] at h3; simp at h3
theorem AlSt.put (h : AlSt base w FB LB RB qv fnd qs) (i : Nat) : AlSt base (w.setCell ⟨RB, i, none⟩ (.bool true)) FB LB RB qv (fnd.set i true) qs := by
  have hg := setCell_grown w RB i (.bool true)
  obtain ⟨n1, n2, _⟩ := h.ne
  refine ⟨by rw [List.length_set]; exact (heap_setCell_other _ _ _ _ n1.symm).trans h.f, h.r.set i true, (heap_setCell_other _ _ _ _ n2.symm).trans h.l, h.q.kept hg fun k e e2 => ?_, h.lo, by simpa using h.nsz⟩
  obtain rfl := Option.some.inj e2
  exact h.q.off_type h.r (by decide) e
theorem AlSt.push (h : AlSt base w FB LB RB qv fnd qs) {w1 : World} {qv' : Value} {x : Nat} (hA : AppQ w w1 base 3 1 qv qv' (qs.length + 1) (qs.map zV ++ [zV x])) :
    AlSt base (w1.setCell ⟨LB, 0, none⟩ qv') FB LB RB qv' fnd (qs ++ [x]) ∧ Boxed w1 LB 24 qv := by
  have hq : ∀ {B : Nat} {t : TypeId} {cs : Array Value} {fr : Nat × Nat}, w.heap[B]? = some (.cells cs t fr) → t ≠ 3 → some B ≠ qv.ownBlock := fun hb ht e => h.q.off_type hb ht e.symm
  obtain ⟨n1, n2, n3⟩ := h.ne
  have b1 : Boxed w1 LB 24 qv := h.l.kept hA.grown (hq h.l (by decide))
  have b2 : Boxed w1 FB 30 (.slice (some ⟨RB, 0, none⟩) fnd.length fnd.length) := h.f.kept hA.grown (hq h.f (by decide))
  have b4 : RowAt w1 RB 4 Value.bool fnd := h.r.grown hA.grown (Ne.symm (hq h.r (by decide)))
  refine ⟨⟨(heap_setCell_other _ _ _ _ n3.symm).trans b2, b4.other _ n2, b1.set qv', ?_, h.lo, by have := h.nsz; have := hA.grown.size; simp; omega⟩, b1⟩
  rw [List.length_append, List.map_append]
  refine hA.own.kept (setCell_grown w1 LB 0 qv') fun k e e2 => ?_
  obtain rfl := Option.some.inj e2
  exact hA.own.off_type b1 (by decide) e
end
/-- which states are found -/
structure AlV (D : DfaM) (V : List Nat) (fnd : List Bool) : Prop where
  len : fnd.length = D.next.length
  on : ∀ i, i < D.next.length → (On fnd i ↔ i ∈ V)
  nd : V.Nodup
  alv : ∀ i ∈ V, i < D.next.length ∧ Alv D i
def addV (V : List Nat) (s : Nat) : List Nat := if s ∈ V then V else V ++ [s]
theorem addV_mem (V : List Nat) (s x : Nat) : x ∈ addV V s ↔ x ∈ V ∨ x = s := by
  unfold addV
  split
  · rename_i h
    exact ⟨.inl, fun h2 => h2.elim id (fun e => e ▸ h)⟩
  · simp
theorem addV_pre (V : List Nat) (s : Nat) : V <+: addV V s := by
  unfold addV
  split
  · exact List.prefix_rfl
  · exact List.prefix_append _ _
theorem AlV.add {D : DfaM} {V : List Nat} {fnd : List Bool} (h : AlV D V fnd) {s : Nat} (hs : s < D.next.length) (ha : Alv D s) : AlV D (addV V s) (fnd.set s true) := by
  refine ⟨by rw [List.length_set]; exact h.len, fun i hi => ?_, ?_, fun i hi => ?_⟩
  · rw [on_set (by rw [h.len]; exact hs), h.on i hi, addV_mem]
  · unfold addV
    split
    · exact h.nd
    · rename_i hn
      rw [List.nodup_append]
      refine ⟨h.nd, by simp, fun a hma b hb => ?_⟩
      simp only [List.mem_singleton] at hb
      subst hb
      exact fun e => hn (e ▸ hma)
  · rcases (addV_mem _ _ _).1 hi with h1 | rfl
    · exact h.alv i h1
    · exact ⟨hs, ha⟩
theorem AlV.short {D : DfaM} {V : List Nat} {fnd : List Bool} (h : AlV D V fnd) : V.length ≤ D.next.length := nodup_lenV h.nd fun x hx => (h.alv x hx).1
theorem AlV.done {D : DfaM} {V : List Nat} {fnd : List Bool} (hR : rightD D = true) (h : AlV D V fnd) (hl : ∀ i, i < D.next.length → 0 ≤ D.label.getD i 0 → i ∈ V) (hp : ∀ x ∈ V, ∀ j, j < D.next.length → Edge D j x → j ∈ V) : fnd = aliveL D := by
  have hc : ∀ i, Alv D i → i < D.next.length → i ∈ V := fun i ha => by
    induction ha with
    | here h0 => exact fun hi => hl _ hi h0
    | step he _ ih => exact fun hi => hp _ (ih (he.lt hR hi)) _ hi he
  refine on_ext (by rw [h.len, alive_len hR]) fun i => ?_
  by_cases hi : i < D.next.length
  · rw [h.on i hi, alive_iff hR hi]
    exact ⟨fun hm => (h.alv i hm).2, fun ha => hc i ha hi⟩
  · have h1 := off_len (S := fnd) (i := i) (by rw [h.len]; omega)
    have h2 := off_len (S := aliveL D) (i := i) (by rw [alive_len hR]; omega)
    exact ⟨fun h => absurd h h1, fun h => absurd h h2⟩
/-- what a state more keeps -/
structure AwF (base : Nat) (w w' : World) (LB RB : Nat) (qv : Value) : Prop where
  b : Below base w w'
  k : ∀ k, k < w.heap.size → k ≠ LB → k ≠ RB → qv.ownBlock ≠ some k → w'.heap[k]? = w.heap[k]?
set_option maxHeartbeats 4000000 in
set_option maxRecDepth 100000 in
theorem await_calls {base : Nat} {w : World} {FB LB RB : Nat} {qv : Value} {fnd : List Bool} {V : List Nat} {h s : Nat} {D : DfaM} (hE : AlSt base w FB LB RB qv fnd (V.drop h)) (hV : AlV D V fnd) (hh : h ≤ V.length) (hN : D.next.length ≤ 1000) (hs : s < D.next.length) (ha : Alv D s) :
    Calls Tryz.prog 49 #[.int .i64 (s : Nat), .pointer (some ⟨FB, 0, none⟩), .pointer (some ⟨LB, 0, none⟩)] w fun e w' => e = .returned (.tuple #[]) ∧ AwF base w w' LB RB qv ∧ ∃ qv', AlSt base w' FB LB RB qv' (fnd.set s true) ((addV V s).drop h) ∧ AlV D (addV V s) (fnd.set s true) ∧ ∀ k, qv'.ownBlock = some k → qv.ownBlock = some k ∨ w.heap.size ≤ k := by
  have HV2 := hidden (hV.add hs ha)
  have hfs : s < fnd.length := by rw [hV.len]; exact hs
  have hvl := hV.short
  have f0 := hE.f.cell
  have r0 := hE.r.cell (i := s) hfs false
  have r1 := hE.r.frozen s
  rw [getD_on] at r0
  obtain ⟨fl, hfl⟩ : ∃ k, k = fnd.length := ⟨_, rfl⟩
  rw [← hfl] at f0 hfs
  by_cases ho : On fnd s
  · rw [decide_eq_true ho] at r0
    have e1 : addV V s = V := by unfold addV; rw [if_pos ((hV.on s hs).1 ho)]
    rw [e1, set_on ho] at HV2
    rw [e1, set_on ho]
    have HE := hidden hE
    clear ho hE hV hfl e1
    go_enter Tryz.func49, Tryz.ntmps49
    go_wp2
    (try rw [Exit.noGoto_normal])
    exact bodyPost_end (results_none rfl _ _ _) rfl ⟨rfl, ⟨Below.refl _ _, fun _ _ _ _ _ => rfl⟩, qv, HE.out, HV2.out, fun k e => .inl e⟩
  · rw [decide_eq_false ho] at r0
    have e1 : addV V s = V ++ [s] := by unfold addV; rw [if_neg fun hm => ho ((hV.on s hs).2 hm)]
    rw [e1] at HV2
    rw [e1]
    have HDR := hidden (show (V ++ [s]).drop h = V.drop h ++ [s] from List.drop_append_of_le_length hh)
    have hqlen : (V.drop h).length ≤ 1000 := by rw [List.length_drop]; omega
    obtain ⟨ql, hql⟩ : ∃ l, l = V.drop h := ⟨_, rfl⟩
    rw [← hql] at hE HDR hqlen
    obtain ⟨qn, hqn⟩ : ∃ n, n = ql.length := ⟨_, rfl⟩
    have hE2 := hE.put s
    have hal := ((Below.refl (w.setCell ⟨RB, s, none⟩ (.bool true)).heap.size (w.setCell ⟨RB, s, none⟩ (.bool true))).alloc (Nat.le_refl _) (.cells #[.int .i64 (s : Nat)] 3))
    have HE3 := hidden (hE2.below hal)
    obtain ⟨qa, qc, hqv⟩ := hE.q.form
    subst hqv
    have l0 := hE2.l.cell
    have HQ3 := hidden HE3.out.q
    have HNS := hidden HE3.out.nsz
    have HENT := hidden (World.news_of_block (w := ((w.setCell ⟨RB, s, none⟩ (.bool true)).alloc (.cells #[.int .i64 (s : Nat)] 3))) (heap_alloc_new _ _))
    have hszz : (w.setCell ⟨RB, s, none⟩ (.bool true)).heap.size = w.heap.size := by simp
    rw [hszz] at HENT
    have HI := hidden infoInt
    have HQL := hidden (show qn + 1 ≤ 1000000 by omega)
    have hrl := hE.r.lt
    have HLO := hidden hE.lo
    have HB3 := hidden (((Below.refl base w).setCell (p := ⟨RB, s, none⟩) hE.lo.2.2 (.bool true)).alloc (by simpa using hE.nsz) (.cells #[.int .i64 (s : Nat)] 3))
    have HQLT := hidden hE.q.lt
    rw [← hqn] at l0 HQ3 HE3 HQLT ⊢
    have HQN := hidden hqn
    clear ho hE hV hfl e1 hE2 hal hszz hh hvl hql hqn hqlen
    go_enter Tryz.func49, Tryz.ntmps49
    go_wp2_with (at_builtin; (first | refine wpList_app_q (v := .slice qa qn qc) (news := [.int .i64 (s : Nat)]) rfl _ _ rfl HI.out Tryz.underlying24 rfl (by decide) (by decide) rfl HQ3.out rfl HENT.out rfl (by intro u hu; simp only [List.mem_cons, List.not_mem_nil, or_false] at hu; subst hu; rfl) HQL.out HNS.out ?_ | fail); intro v4 w4 hA; obtain ⟨a4, c4, hv4⟩ := hA.own.form; subst hv4; have HP := hidden (HE3.out.push (x := s) (by rw [← HQN.out]; exact hA)); have p1 := HP.out.2.cell; have p2 := HP.out.2.frozen; have HG4 := hidden hA.grown; have HLI := hidden hA.lies; clear hA)
    (try rw [Exit.noGoto_normal])
    refine bodyPost_end (results_none rfl _ _ _) rfl ⟨rfl, ⟨?_, ?_⟩, _, by rw [HDR.out]; exact HP.out.1, HV2.out, ?_⟩
    · exact (HB3.out.grown HG4.out HNS.out fun k e => (HQLT.out k e).1).setCell (p := ⟨LB, 0, none⟩) HLO.out.2.1 _
    · intro k hk h1 h2 h3
      refine (heap_setCell_other _ _ _ _ h1).trans ((HG4.out.block k (by simp; omega) h3.symm).trans ?_)
      exact (heap_alloc_old _ _ (by simp; omega)).trans (heap_setCell_other _ _ _ _ h2)
    · intro k hk
      rcases HLI.out with e | e
      · exact .inl (e ▸ hk)
      · rw [e] at hk
        simp at hk
        exact .inr (by omega)
theorem AlSt.pop {base : Nat} {w : World} {FB LB RB : Nat} {qv : Value} {fnd : List Bool} {x : Nat} {qs : List Nat} (h : AlSt base w FB LB RB qv fnd (x :: qs)) {qv' : Value} (hq : QRow w base 3 1 qv' qs.length (qs.map zV)) : AlSt base (w.setCell ⟨LB, 0, none⟩ qv') FB LB RB qv' fnd qs := by
  obtain ⟨n1, n2, n3⟩ := h.ne
  refine ⟨(heap_setCell_other _ _ _ _ n3.symm).trans h.f, h.r.other _ n2, h.l.set qv', ?_, h.lo, by simpa using h.nsz⟩
  refine hq.kept (setCell_grown w LB 0 qv') fun k e e2 => ?_
  obtain rfl := Option.some.inj e2
  exact hq.off_type h.l (by decide) e
/-- the search backwards, behind h states -/
structure AlL (base s0 s1 : Nat) (w0 w2 w : World) (D : DfaM) (FB LB RB : Nat) (qv : Value) (fnd : List Bool) (V : List Nat) (h : Nat) : Prop where
  e : AlSt base w FB LB RB qv fnd (V.drop h)
  v : AlV D V fnd
  hh : h ≤ V.length
  lab : ∀ i, i < D.next.length → 0 ≤ D.label.getD i 0 → i ∈ V
  m : ∀ k, s0 ≤ k → k < s1 → w.heap[k]? = w2.heap[k]?
  o : ∀ k, qv.ownBlock = some k → k < s0 ∨ s1 ≤ k
  b : Below base w0 w
  z : s1 ≤ w.heap.size
  lo : LB < s0 ∧ RB < s0
theorem AlL.wait {base s0 s1 : Nat} {w0 w2 w w' : World} {D : DfaM} {FB LB RB : Nat} {qv qv' : Value} {fnd fnd' : List Bool} {V V' : List Nat} {h : Nat} (H : AlL base s0 s1 w0 w2 w D FB LB RB qv fnd V h) (hp : V <+: V') (hF : AwF base w w' LB RB qv) (hE : AlSt base w' FB LB RB qv' fnd' (V'.drop h)) (hV : AlV D V' fnd')
    (ho : ∀ k, qv'.ownBlock = some k → qv.ownBlock = some k ∨ w.heap.size ≤ k) : AlL base s0 s1 w0 w2 w' D FB LB RB qv' fnd' V' h where
  e := hE
  v := hV
  hh := Nat.le_trans H.hh hp.length_le
  lab := fun i hi hl => hp.subset (H.lab i hi hl)
  m := fun k h1 h2 => by
    have h3 := H.z
    have h4 := H.lo
    refine (hF.k k (by omega) (by omega) (by omega) fun e => ?_).trans (H.m k h1 h2)
    rcases H.o k e with h | h <;> omega
  o := fun k hk => by
    have h3 := H.z
    rcases ho k hk with h | h
    · exact H.o k h
    · right; omega
  b := below_join H.b hF.b
  z := Nat.le_trans H.z hF.b.size
  lo := H.lo
theorem mem_getD {l : List Int} {x : Int} (h : x ∈ l) : ∃ k, k < l.length ∧ l.getD k 0 = x := by
  obtain ⟨k, hk, e⟩ := List.getElem_of_mem h
  exact ⟨k, hk, by rw [List.getD_eq_getElem?_getD, List.getElem?_eq_getElem hk]; exact e⟩
set_option maxHeartbeats 8000000 in
set_option maxRecDepth 100000 in
theorem palive_calls {w : World} {vn vl : Value} {D : DfaM} (hR : rightD D = true) (h : RdDfa w.heap.size w vn vl D) (hN : D.next.length ≤ 1000) :
    Calls Tryz.prog 29 #[dfaA D.cls D.width vn vl] w (RetBo w (aliveL D)) := by
  obtain ⟨an, cn, rfl⟩ := h.next.form
  obtain ⟨al, cl, rfl⟩ := h.label.form
  have hll : D.label.length = D.next.length := (rightD_spec hR).2.2.2.1
  obtain ⟨n, hn⟩ : ∃ n, n = D.next.length := ⟨_, rfl⟩
  rw [hll] at h ⊢
  have hbx := run_box_dfa D.cls D.width (.slice an D.next.length cn) (.slice al D.next.length cl)
  have HX := hidden (DfaAt.new w D.cls D.width (.slice an D.next.length cn) (.slice al D.next.length cl))
  have hm := run_make_b (w.alloc (.cells (dfaC D.cls D.width (.slice an D.next.length cn) (.slice al D.next.length cl)) 26)) n (by omega)
  have e2 := HX.out.next
  have hsz : (w.alloc (.cells (dfaC D.cls D.width (.slice an D.next.length cn) (.slice al D.next.length cl)) 26)).heap.size = w.heap.size + 1 := by simp
  have hb0 : Below w.heap.size w (w.alloc (.cells (dfaC D.cls D.width (.slice an D.next.length cn) (.slice al D.next.length cl)) 26)) := (Below.refl w.heap.size w).alloc (Nat.le_refl _) _
  rw [← hn] at h hN hbx HX e2 hb0 hm hsz ⊢
  have hm2 := hm
  rw [hsz] at hm2
  have HN := hidden hn
  have HD := hidden h
  have HRT := hidden hR
  have HLL := hidden hll
  have HB0 := hidden hb0
  have HXb := hidden (((HX.out.alloc (.cells (Array.replicate n (.bool false)) 4)).alloc (.cells #[.slice (some ⟨w.heap.size + 1, 0, none⟩) n n] 30)).alloc (.cells #[.slice none 0 0] 24))
  have e3 := HXb.out.label
  clear hb0 h hR hn hll
  go_enter Tryz.func29, Tryz.ntmps29
  go_wp2
  obtain ⟨wa, hwa⟩ : ∃ wa, wa = (((w.alloc (.cells (dfaC D.cls D.width (.slice an n cn) (.slice al n cl)) 26)).alloc (.cells (Array.replicate n (.bool false)) 4)).alloc (.cells #[.slice (some ⟨w.heap.size + 1, 0, none⟩) n n] 30)).alloc (.cells #[.slice none 0 0] 24) := ⟨_, rfl⟩
  have HBa := hidden (show Below w.heap.size w wa from by rw [hwa]; exact ((HB0.out.alloc HB0.out.size _).alloc (by simp; omega) _).alloc (by simp; omega) _)
  have HE0 := hidden (show AlSt w.heap.size wa (w.heap.size + 1 + 1) (w.heap.size + 1 + 1 + 1) (w.heap.size + 1) (.slice none 0 0) (List.replicate n false) [] from by
    rw [hwa]
    obtain ⟨w0, hw0⟩ : ∃ w0, w0 = w.alloc (.cells (dfaC D.cls D.width (.slice an n cn) (.slice al n cl)) 26) := ⟨_, rfl⟩
    have hs : w0.heap.size = w.heap.size + 1 := by rw [hw0]; simp
    rw [← hw0, ← hs]
    have hf := Boxed.new (w0.alloc (.cells (Array.replicate n (.bool false)) 4)) 30 (.slice (some ⟨w0.heap.size, 0, none⟩) n n)
    have hl := Boxed.new ((w0.alloc (.cells (Array.replicate n (.bool false)) 4)).alloc (.cells #[.slice (some ⟨w0.heap.size, 0, none⟩) n n] 30)) 24 (.slice none 0 0)
    have s1 : (w0.alloc (.cells (Array.replicate n (.bool false)) 4)).heap.size = w0.heap.size + 1 := by simp
    have s2 : ((w0.alloc (.cells (Array.replicate n (.bool false)) 4)).alloc (.cells #[.slice (some ⟨w0.heap.size, 0, none⟩) n n] 30)).heap.size = w0.heap.size + 1 + 1 := by simp
    rw [s1] at hf
    rw [s2] at hl
    have hr : RowAt (w0.alloc (.cells (Array.replicate n (.bool false)) 4)) w0.heap.size 4 Value.bool (List.replicate n false) := RowAt.newAt rfl (by rw [List.map_replicate, List.toArray_replicate])
    exact ⟨by rw [List.length_replicate]; exact hf.alloc _, (hr.alloc _).alloc _, hl, QRow.nil _ _ _ _, by omega, by simp; omega⟩)
  obtain ⟨DB, hDB⟩ : ∃ b, b = w.heap.size := ⟨_, rfl⟩
  have HDBL := hidden (show w.heap.size ≤ DB ∧ DB < w.heap.size + 1 by omega)
  have HXa := hidden (show DfaAt wa DB D.cls D.width (.slice an n cn) (.slice al n cl) from by rw [hDB, hwa]; exact HXb.out)
  have hsa : wa.heap.size = w.heap.size + 1 + 1 + 1 + 1 := by rw [hwa]; simp
  have HSA := hidden hsa
  have HN2 := hidden hN
  rw [← hwa]
  obtain ⟨base, hbase⟩ : ∃ b, b = w.heap.size := ⟨_, rfl⟩
  have HV0 := hidden (show AlV D [] (List.replicate n false) from ⟨by rw [List.length_replicate]; exact HN.out, fun i _ => ⟨fun h => absurd h (on_none n i), fun h => by cases h⟩, by simp, fun i h => by cases h⟩)
  clear hwa hbx hm hm2 hsz e2 e3 HX HXb HB0
  go_loopw [20] (fun iv wr => ∃ (i : Nat) (V : List Nat) (qv : Value) (fnd : List Bool), i ≤ n ∧ iv = .int .i64 i ∧ AlSt w.heap.size wr (w.heap.size + 1 + 1) (w.heap.size + 1 + 1 + 1) (w.heap.size + 1) qv fnd (V.drop 0) ∧ AlV D V fnd ∧ (∀ j, j < i → 0 ≤ D.label.getD j 0 → j ∈ V) ∧ Below w.heap.size w wr ∧ DfaAt wr DB D.cls D.width (.slice an n cn) (.slice al n cl)) (fun i _ => n - (Go.RowKit.intOf i).toNat)
  case atStart => exact ⟨0, [], _, _, by omega, rfl, HE0.out, HV0.out, fun j hj => by omega, HBa.out, HXa.out⟩
  case round =>
    obtain ⟨i, V, qv, fnd, hi, rfl, hE, hV, hlab, hB, hX⟩ := hrel
    have HE := hidden hE
    have HV := hidden hV
    have HLAB := hidden hlab
    have HB := hidden hB
    have HX := hidden hX
    clear hE hV hlab hB hX
    by_cases hlt : i < n
    · obtain ⟨b9, o9, hal9, _, q9⟩ := HD.out.label.atZ HB.out i (by rw [HLL.out, ← HN.out]; exact hlt)
      subst hal9
      have hge := ((rightD_spec HRT.out).2.2.2.2 i (by rw [← HN.out]; exact hlt)).2.1
      have HALV := hidden (fun h0 : 0 ≤ D.label.getD i 0 => Alv.here h0)
      have HLABN := hidden (fun (V' : List Nat) (hsub : ∀ j ∈ V, j ∈ V') (hi : 0 ≤ D.label.getD i 0 → i ∈ V') => show ∀ j, j < i + 1 → 0 ≤ D.label.getD j 0 → j ∈ V' from fun j hj hl => by
        by_cases e : j = i
        · subst e; exact hi hl
        · exact hsub j (HLAB.out j (by omega) hl))
      obtain ⟨lx, hlx⟩ : ∃ x, x = D.label.getD i 0 := ⟨_, rfl⟩
      rw [← hlx] at q9 hge HALV HLABN
      clear hlx
      by_cases h1 : lx = -1
      · subst h1
        have HL2 := hidden (HLABN.out V (fun j h => h) (fun h => by omega))
        clear hge
        go_wp2
        go_roundw
        case rel => exact ⟨i + 1, V, qv, fnd, by omega, by go_num, HE.out, HV.out, HL2.out, HB.out, HX.out⟩
        case measure => simp [Go.RowKit.intOf]; omega
      · have q1 : (lx == -1) = false := by simpa using h1
        have q2 : (lx != -1) = true := by simpa using h1
        have q3 : decide (lx = -1) = false := by simpa using h1
        have h0 : 0 ≤ lx := by omega
        have HL2 := hidden (HLABN.out (addV V i) (fun j h => (addV_mem _ _ _).2 (.inl h)) (fun _ => (addV_mem _ _ _).2 (.inr rfl)))
        have HAW := hidden (await_calls HE.out HV.out (Nat.zero_le _) (by rw [← HN.out]; exact HN2.out) (s := i) (by rw [← HN.out]; exact hlt) (HALV.out h0))
        clear h1 h0 hge
        go_wp2_with fail
        refine HAW.out.mono ?_
        rintro e w5 ⟨rfl, hF, qv5, hE5, hV5, _⟩
        have HE5 := hidden hE5
        have HV5 := hidden hV5
        have HB5 := hidden (below_join HB.out hF.b)
        have HX5 := hidden (show DfaAt w5 DB D.cls D.width (.slice an n cn) (.slice (some ⟨b9, o9, none⟩) n cl) from (hF.k DB HX.out.lt (by have := HDBL.out; omega) (by have := HDBL.out; omega) (HE.out.q.off_type HX.out (by decide))).trans HX.out)
        clear hF hE5 hV5
        go_wp2
        go_roundw
        case rel => exact ⟨i + 1, addV V i, qv5, _, by omega, by go_num, HE5.out, HV5.out, HL2.out, HB5.out, HX5.out⟩
        case measure => simp [Go.RowKit.intOf]; omega
    · obtain rfl : i = n := by omega
      have HXw := hidden (show DfaAt wr w.heap.size D.cls D.width (.slice an i cn) (.slice al i cl) from by rw [← hDB]; exact HX.out)
      have HSRC := hidden (sources_calls HRT.out (HD.out.below HB.out HB.out.size) (by rw [← HN.out]; exact HN2.out))
      have HBW := hidden HB.out.size
      have HSZ := hidden (show w.heap.size + 1 + 1 + 1 < wr.heap.size from HE.out.l.lt)
      unfold RetSrc at HSRC
      rw [← HN.out] at HSRC
      clear hDB hsa hbase HBa HXa HDBL HSA HE0 HV0
      go_wp2_with fail
      refine wp_load_any (x := .tmp 1) rfl rfl (run_load_dfa HXw.out) ?_
      go_wp2_with fail
      refine HSRC.out.mono ?_
      rintro e w2 ⟨B, us, L, rfl, hS, hO⟩
      have HS := hidden hS
      have HO := hidden hO
      have hz2 := hS.b.size
      have HL0 := hidden (show AlL w.heap.size wr.heap.size w2.heap.size w w2 w2 D (w.heap.size + 1 + 1) (w.heap.size + 1 + 1 + 1) (w.heap.size + 1) qv fnd V 0 from
        ⟨HE.out.below hS.b, HV.out, Nat.zero_le _, fun j hj hl => HLAB.out j (by rw [HN.out]; exact hj) hl, fun k _ _ => rfl, fun k hk => .inl ((HE.out.q.lt k hk).2), below_then HB.out HB.out.size hS.b, Nat.le_refl _, by have := HSZ.out; omega⟩)
      obtain ⟨s0, hs0⟩ : ∃ s, s = wr.heap.size := ⟨_, rfl⟩
      rw [← hs0] at HL0 HS HSZ HBW hz2
      have HBR := hidden HS.out.o
      have hBs : s0 ≤ B ∧ B < w2.heap.size := ⟨HS.out.lo, HS.out.o.lt⟩
      obtain ⟨FB, hFB⟩ : ∃ b, b = w.heap.size + 1 + 1 := ⟨_, rfl⟩
      obtain ⟨LB, hLB⟩ : ∃ b, b = w.heap.size + 1 + 1 + 1 := ⟨_, rfl⟩
      obtain ⟨RB, hRB⟩ : ∃ b, b = w.heap.size + 1 := ⟨_, rfl⟩
      rw [← hLB, ← hFB, ← hRB] at HL0
      rw [← hLB, ← hFB, ← hRB]
      have HRB := hidden (show w.heap.size ≤ RB by omega)
      clear hS hO hs0 hFB hLB hRB HX HXw HSRC HB HE HV HLAB
      go_wp2_with fail
      go_loopg [] (i + 1) (fun k wr => ∃ (h : Nat) (V : List Nat) (qv : Value) (fnd : List Bool), h + k = i + 1 ∧ AlL w.heap.size s0 w2.heap.size w w2 wr D FB LB RB qv fnd V h ∧ ∀ k x, k < h → V[k]? = some x → ∀ j, j < D.next.length → Edge D j x → j ∈ V)
      case atStart => exact ⟨0, V, qv, fnd, by omega, HL0.out, fun k x hk => by omega⟩
      case round =>
        obtain ⟨h, V, qv, fnd, hgk, hL, hcl⟩ := hrel
        have HL := hidden hL
        have HCL := hidden hcl
        have hvs : V.length ≤ i := by rw [HN.out]; exact hL.v.short
        have l0 := hL.e.l.cell
        have hql : (V.drop h).length = V.length - h := List.length_drop
        have hhv := hL.hh
        by_cases hlt2 : h < V.length
        · have hx : V[h]? = some V[h] := List.getElem?_eq_getElem hlt2
          have hdr : V.drop h = V[h] :: V.drop (h + 1) := List.drop_eq_getElem_cons hlt2
          obtain ⟨s, hs⟩ : ∃ s, s = V[h] := ⟨_, rfl⟩
          rw [← hs] at hx hdr
          have HX := hidden hx
          obtain ⟨hsn, hsa⟩ := hL.v.alv s (List.mem_of_getElem? hx)
          rw [← HN.out] at hsn
          have HSA := hidden hsa
          have hE := hL.e
          rw [hdr] at hE
          have HE := hidden hE
          obtain ⟨ql, hqle⟩ : ∃ l, l = V.drop (h + 1) := ⟨_, rfl⟩
          rw [← hqle] at hE HE
          obtain ⟨qn, hqn⟩ : ∃ k, k = ql.length := ⟨_, rfl⟩
          have hqb : qn ≤ i := by rw [hqn, hqle, List.length_drop]; omega
          obtain ⟨g, off, cap, hqv, _, hgl, hc1, hc2, hcs⟩ := hE.q.at (by simp)
          subst hqv
          rw [show (s :: ql).length = qn + 1 from by rw [hqn]; rfl] at hE HE hc1 l0
          have l2 := hE.l.frozen
          have c0 := hcs 0 (zV s) rfl
          rw [Nat.add_zero] at c0
          unfold zV at c0
          have htail := hE.q
          rw [show (s :: ql).length = qn + 1 from by rw [hqn]; rfl] at htail
          have htail := htail.tail
          rw [show ((s :: ql).map zV).drop 1 = ql.map zV from rfl] at htail
          have hlo := hE.lo
          have key : ∀ qv2, QRow wr w.heap.size 3 1 qv2 qn (ql.map zV) → (∀ k, qv2.ownBlock = some k → k = g) → AlL w.heap.size s0 w2.heap.size w w2 (wr.setCell ⟨LB, 0, none⟩ qv2) D FB LB RB qv2 fnd V (h + 1) := fun qv2 hq hk => by
            refine ⟨by rw [← hqle]; exact hE.pop (by rw [← hqn]; exact hq), hL.v, hlt2, hL.lab, fun k h1 h2 => (heap_setCell_other _ _ _ _ (show k ≠ LB from by have := hL.lo.1; omega)).trans (hL.m k h1 h2), fun k e => ?_, hL.b.setCell (p := ⟨LB, 0, none⟩) hlo.2.1 _, by have := hL.z; simpa using this, hL.lo⟩
            obtain rfl := hk k e
            exact hL.o k rfl
          have KEY := hidden key
          obtain ⟨va, vc, hv⟩ := (HS.out.r s (by rw [HO.out.len]; exact hsn)).form
          obtain ⟨m, hm⟩ : ∃ m, m = (L.getD s []).length := ⟨_, rfl⟩
          have hu0 := HS.out.o.cell (i := s) (by rw [HS.out.len, HO.out.len]; exact hsn) undef
          rw [hv, ← hm] at hu0
          have hml : m ≤ i + 1 := by
            rcases HO.out.short s hsn with h1 | h1 <;> omega
          have hcellB : ∀ W' : World, (∀ k, s0 ≤ k → k < w2.heap.size → W'.heap[k]? = w2.heap[k]?) → W'.cell? ⟨B, s, none⟩ = some (.slice va m vc) := fun W' hW => (World.cell?_of_block (a := ⟨B, s, none⟩) (hW B hBs.1 hBs.2)).trans hu0
          have HROW := hidden (show RowZ w2 s0 (.slice va m vc) (L.getD s []) from by have := HS.out.r s (by rw [HO.out.len]; exact hsn); rw [hv, ← hm] at this; exact this)
          have HM := hidden hm
          have HLT2 := hidden hlt2
          have HGK := hidden hgk
          have hq0 : decide ((0 : Int) < (qn : Int) + 1) = true := decide_eq_true (by omega)
          have hq1 : decide (0 < qn + 1) = true := decide_eq_true (by omega)
          clear hcs hx hdr hs hL hcl hE hql hqle hqn hsa key hv hu0 hm hgk hlt2 hhv hlo
          by_cases hcap : cap = 1
          case' pos =>
            subst hcap
            obtain rfl : qn = 0 := by omega
            have HK := hidden (KEY.out (.slice (some ⟨g, off, none⟩) 0 0) (htail.1 rfl) (fun k e => by simp only [Value.ownBlock, Option.some.injEq] at e; exact e.symm))
            have r1 := hcellB _ HK.out.m
            clear htail KEY hcellB
            go_wp2
            obtain ⟨qv5, hqv5⟩ : ∃ q, q = Value.slice (some ⟨g, off, none⟩) 0 0 := ⟨_, rfl⟩
            rw [← hqv5] at HK r1 ⊢
            generalize wr.setCell ⟨LB, 0, none⟩ qv5 = w5 at *
          case' neg =>
            have HK := hidden (KEY.out (.slice (some ⟨g, off + 1, none⟩) qn (cap - 1)) (htail.2 hcap) (fun k e => by simp only [Value.ownBlock, Option.some.injEq] at e; exact e.symm))
            have r1 := hcellB _ HK.out.m
            clear htail KEY hcellB
            go_wp2
            obtain ⟨qv5, hqv5⟩ : ∃ q, q = Value.slice (some ⟨g, off + 1, none⟩) qn (cap - 1) := ⟨_, rfl⟩
            rw [← hqv5] at HK r1 ⊢
            generalize wr.setCell ⟨LB, 0, none⟩ qv5 = w5 at *
          all_goals
            clear hqv5 l0 l2 c0 r1 hq0 hq1 hgl hc1 HE HL
            have HVS := hidden hvs
            go_loopw [46] (fun iv wr => ∃ (c : Nat) (V' : List Nat) (qv : Value) (fnd : List Bool), c ≤ m ∧ iv = .int .i64 c ∧ V <+: V' ∧ AlL w.heap.size s0 w2.heap.size w w2 wr D FB LB RB qv fnd V' (h + 1) ∧ ∀ k, k < c → ∀ j : Nat, (L.getD s []).getD k 0 = (j : Int) → j ∈ V') (fun i _ => m - (Go.RowKit.intOf i).toNat)
            case atStart => exact ⟨0, V, _, _, by omega, rfl, List.prefix_rfl, HK.out, fun k hk => by omega⟩
            case round =>
              obtain ⟨c, V', qv, fnd, hc, rfl, hp, hL, hall⟩ := hrel
              have HL := hidden hL
              have HP := hidden hp
              have HALL := hidden hall
              have hm6 := hL.m
              clear hL hp hall
              by_cases hcm : c < m
              · obtain ⟨g2, hg2, z0⟩ := HROW.out.cellZ (i := c) (by rw [← HM.out]; exact hcm)
                subst hg2
                obtain ⟨hg3, cs, fr, hb⟩ := HROW.out.isRow (k := g2) rfl
                have z1 := (World.cell?_of_block (a := ⟨g2, c, none⟩) (hm6 g2 hg3 (Array.getElem?_eq_some_iff.1 hb).1)).trans z0
                obtain ⟨x, hx, hor⟩ := (HO.out.mem s hsn ((L.getD s []).getD c 0)).1 (getD_mem (by rw [← HM.out]; exact hcm))
                have hxe : x < i ∧ Edge D x s := by
                  rcases hor with h1 | ⟨_, d, hd, _⟩
                  · exact h1
                  · omega
                have HZE := hidden (show ∀ V'' : List Nat, (∀ j ∈ V', j ∈ V'') → x ∈ V'' → ∀ k, k < c + 1 → ∀ j : Nat, (L.getD s []).getD k 0 = (j : Int) → j ∈ V'' from fun V'' hsub hxm k hk j hj => by
                  by_cases e : k = c
                  · subst e
                    rw [hx] at hj
                    obtain rfl : x = j := by omega
                    exact hxm
                  · exact hsub j (HALL.out k (by omega) j hj))
                rw [hx] at z1
                have hxn := hxe.1
                have HAW := hidden (await_calls HL.out.e HL.out.v HL.out.hh (by rw [← HN.out]; exact HN2.out) (s := x) (by rw [← HN.out]; exact hxe.1) (Alv.step hxe.2 HSA.out))
                clear hx hor hxe z0 hb hm6 hg3
                go_wp2_with fail
                refine HAW.out.mono ?_
                rintro e w7 ⟨rfl, hF, qv7, hE7, hV7, ho7⟩
                have HL7 := hidden (HL.out.wait (addV_pre V' x) hF hE7 hV7 ho7)
                have HZ7 := hidden (HZE.out (addV V' x) (fun j h => (addV_mem _ _ _).2 (.inl h)) ((addV_mem _ _ _).2 (.inr rfl)))
                have HP7 := hidden (HP.out.trans (addV_pre V' x))
                clear hF hE7 hV7 ho7
                go_wp2
                go_roundw
                case rel => exact ⟨c + 1, addV V' x, qv7, _, by omega, by go_num, HP7.out, HL7.out, HZ7.out⟩
                case measure => simp [Go.RowKit.intOf]; omega
              · obtain rfl : c = m := by omega
                have HCL2 := hidden (show ∀ k x, k < h + 1 → V'[k]? = some x → ∀ j, j < D.next.length → Edge D j x → j ∈ V' from fun k x hk hx j hj he => by
                  by_cases e : k = h
                  · subst e
                    have hx2 := pre_get HP.out HX.out
                    rw [hx] at hx2
                    obtain rfl := Option.some.inj hx2
                    have hmem := (HO.out.mem x hsn (j : Int)).2 ⟨j, rfl, .inl ⟨by rw [HN.out]; exact hj, he⟩⟩
                    obtain ⟨k2, hk2, e2⟩ := mem_getD hmem
                    exact HALL.out k2 (by rw [HM.out]; exact hk2) j e2
                  · have hkl : k < V.length := by have := HLT2.out; omega
                    have hx2 := pre_get HP.out (List.getElem?_eq_getElem hkl)
                    rw [hx] at hx2
                    have hx3 := Option.some.inj hx2
                    exact HP.out.subset (HCL.out k x (by omega) (by rw [List.getElem?_eq_getElem hkl, hx3]) j hj he))
                clear hm6
                go_wp2
                go_roundg (gk - 1)
                case measure => have := HGK.out; have := HLT2.out; omega
                case rel => exact ⟨h + 1, V', qv, fnd, by have := HGK.out; have := HLT2.out; omega, HL.out, HCL2.out⟩
        · obtain ⟨qa, qc, hqv⟩ := hL.e.q.form
          subst hqv
          have hz : (V.drop h).length = 0 := by omega
          have HFI := hidden (show fnd = aliveL D from hL.v.done HRT.out hL.lab fun x hx j hj he => by
            obtain ⟨k, hk⟩ := List.getElem?_of_mem hx
            have := (List.getElem?_eq_some_iff.1 hk).1
            exact hcl k x (by omega) hk j hj he)
          have HFL := hidden hL.v.len
          have f0 := hL.e.f.cell
          rw [hz] at l0
          clear hL hcl hql hz hgk
          go_wp2
          go_ret
          exact ⟨_, rfl, by rw [← HFI.out]; exact HL.out.e.r.reads (by rw [HFL.out, ← HN.out]; omega) rfl, HL.out.b, own_at HRB.out⟩
set_option maxHeartbeats 4000000 in
set_option maxRecDepth 100000 in
theorem lalive_calls {w : World} {vn vl : Value} {D : DfaM} (h : RdDfa w.heap.size w vn vl D) (hN : D.next.length ≤ 1000) :
    Calls Tryz.prog 12 #[dfaA D.cls D.width vn vl] w (RetBo w (aliveL D)) := by
  have HR := hidden (fun w' (hb : Below w.heap.size w w') => right14_calls (h.below hb hb.size))
  have HP := hidden (fun hr w' (hb : Below w.heap.size w w') => palive_calls hr (h.below hb hb.size) hN)
  have hbx := run_box_dfa D.cls D.width vn vl
  have HX := hidden (DfaAt.new w D.cls D.width vn vl)
  have HB0 := hidden ((Below.refl w.heap.size w).alloc (Nat.le_refl _) (.cells (dfaC D.cls D.width vn vl) 26))
  clear h
  go_enter Tryz.func12, Tryz.ntmps12
  go_wp2_with (refine load_dfa rfl (x := .tmp 1) rfl rfl HX.out ?_)
  refine (HR.out _ HB0.out).mono ?_
  rintro e w1 ⟨rfl, hb1⟩
  have HX1 := hidden (HX.out.below hb1)
  have HB1 := hidden (below_then HB0.out HB0.out.size hb1)
  clear hb1
  cases hr : rightD D with
  | false =>
    have HF := hidden (show aliveL D = [] by unfold aliveL; rw [if_neg (by simp [hr])])
    clear hr
    go_wp2
    go_ret
    exact ⟨_, rfl, by rw [HF.out]; exact rdb_nil, HB1.out, fun k hk => by cases hk⟩
  | true =>
    have HRT := hidden hr
    clear hr
    go_wp2_with (refine load_dfa rfl (x := .tmp 1) rfl rfl HX1.out ?_)
    refine (HP.out HRT.out _ HB1.out).mono ?_
    rintro e w2 ⟨v, rfl, hr2, hb2, hown⟩
    have HR2 := hidden hr2
    have HB2 := hidden (below_then HB1.out HB1.out.size hb2)
    have HOW := hidden (show ∀ k, v.ownBlock = some k → w.heap.size ≤ k from fun k hk => Nat.le_trans HB1.out.size (hown k hk))
    clear hr2 hb2 hown
    go_wp2
    go_ret
    exact ⟨_, rfl, HR2.out, HB2.out, HOW.out⟩
end Go.Proofs.YtnjjbaodfjmiaaaGreat

/- Contract of slices.Repeat at one number; of the program's renumbered. -/
namespace Go.Proofs.YtnjjbaodfjmiaaaGreat
open Go.RowKit Go.Lib Go.Joins

def repL (x : Int) (n c : Nat) : List Int := List.replicate c x ++ List.replicate (n - c) 0
theorem repL_len (x : Int) {n c : Nat} (h : c ≤ n) : (repL x n c).length = n := by simp [repL]; omega
theorem splice_rep (x : Int) (n c m : Nat) : splice ((repL x n c).map (Value.int .i64)) c ((List.replicate m x).map (Value.int .i64)) = (repL x n (c + m)).map (Value.int .i64) := by
  unfold splice repL
  simp only [List.map_append, List.map_replicate, List.length_replicate]
  rw [List.take_left' (by simp), List.drop_append, List.drop_eq_nil_of_le (by simp), List.nil_append, List.length_replicate, Nat.add_sub_cancel_left, List.drop_replicate, ← List.append_assoc, List.replicate_append_replicate, Nat.sub_sub]
theorem repL_at (x : Int) {n c i : Nat} (h : i < c) : (repL x n c).getD i 0 = x := by
  unfold repL
  rw [List.getD_eq_getElem?_getD, List.getElem?_append_left (by simpa using h), List.getElem?_replicate, if_pos h]
  rfl
set_option maxHeartbeats 8000000 in
set_option maxRecDepth 100000 in
theorem repeat_calls {w : World} {b : Nat} {x : Int} {n : Nat} (hx : w.cell? ⟨b, 0, none⟩ = some (.int .i64 x)) (hn0 : 0 < n) (hn : n ≤ 1000) :
    Calls Tryz.prog 30 #[.slice (some ⟨b, 0, none⟩) 1 1, .int .i64 (n : Nat)] w fun e w' => ∃ B, e = .returned (.slice (some ⟨B, 0, none⟩) n n) ∧ w.heap.size ≤ B ∧ RowAt w' B 3 (Value.int .i64) (List.replicate n x) ∧ Below w.heap.size w w' := by
  have HMU := hidden (fun W => Go.Proofs.Tryz.bits_Mul 1 n (by decide) (by omega) W)
  rw [Nat.one_mul, Nat.div_eq_of_lt (by omega), Nat.mod_eq_of_lt (by omega)] at HMU
  have hbl := World.block_lt_of_cell? w _ hx
  have HX := hidden hx
  have hm := run_make_z w n (by omega)
  have HG0 := hidden (show (w.alloc (.cells (Array.replicate n (.int .i64 0)) 3)).heap[w.heap.size]? = some (.cells ((repL x n 0).map (Value.int .i64)).toArray 3 (0, 0)) from by
    rw [show (repL x n 0).map (Value.int .i64) = (List.replicate n (0 : Int)).map (Value.int .i64) from by simp [repL], ← rep_map]
    exact heap_alloc_new _ _)
  have HB0 := hidden ((Below.refl w.heap.size w).alloc (Nat.le_refl _) (.cells (Array.replicate n (.int .i64 0)) 3))
  have HX1 := hidden (show ∀ j v, [Value.int .i64 x][j]? = some v → (w.alloc (.cells (Array.replicate n (.int .i64 0)) 3)).cell? ((⟨b, 0, none⟩ : Addr).add j) = some v from fun j v hv => by
    match j, hv with
    | 0, hv =>
      simp only [List.getElem?_cons_zero, Option.some.injEq] at hv
      subst hv
      rw [Addr.add_lit]
      exact (HB0.out.cell (p := ⟨b, 0 + 0, none⟩) hbl).trans hx)
  have HL0 := hidden (repL_len x (n := n) (c := 0) (Nat.zero_le _))
  clear hx
  go_enter Tryz.func30, Tryz.ntmps30
  go_wp2_with fail
  refine (HMU.out _).mono ?_
  rintro e w1 ⟨rfl, hw1⟩
  obtain rfl : w = w1 := hw1.symm
  go_wp2_with (refine wpList_copy_splice rfl (.tmp 31) (.tmp 32) 24 24 rfl 3 Tryz.underlying24 (by kernel_rfl) (some ⟨w.heap.size, 0, none⟩) (some ⟨b, 0, none⟩) n n 1 1 rfl rfl w.heap.size 0 ((repL x n 0).map (Value.int .i64)) 3 HG0.out [.int .i64 x] (Nat.min_eq_left hn0).symm (fun _ => ⟨rfl, _, rfl, HX1.out⟩) (by have := HL0.out; rw [List.length_map]; simp; omega) (by intro v hv; simp only [List.mem_singleton] at hv; subst hv; rfl) w.heap.size w HB0.out (Nat.le_refl _) ?_; intro w4 hg4 hb4; have HR4 := hidden (show RowAt w4 w.heap.size 3 (Value.int .i64) (repL x n 1) from by have h5 := hg4.out; have h6 := splice_rep x n 0 1; rw [show (List.replicate 1 x).map (Value.int .i64) = [.int .i64 x] from rfl] at h6; rw [h6] at h5; exact h5); have HB4 := hidden hb4; clear hg4 hb4)
  go_loopw [8] (fun cv wr => ∃ c : Nat, (1 ≤ c ∧ c ≤ n) ∧ cv = .int .i64 c ∧ RowAt wr w.heap.size 3 (Value.int .i64) (repL x n c) ∧ Below w.heap.size w wr) (fun c _ => n - (Go.RowKit.intOf c).toNat)
  case atStart => exact ⟨1, ⟨Nat.le_refl _, hn0⟩, by go_num, HR4.out, HB4.out⟩
  case round =>
    obtain ⟨c, hc, rfl, hrow, hb⟩ := hrel
    have HRW := hidden hrow
    have HB := hidden hb
    clear hrow hb hm
    by_cases hlt : c < n
    · obtain ⟨m, hm⟩ : ∃ m, m = Nat.min c (n - c) := ⟨_, rfl⟩
      have hm1 : 1 ≤ m ∧ c + m ≤ n ∧ m ≤ c := by
        have h1 : m ≤ c := by rw [hm]; exact Nat.min_le_left _ _
        have h2 : m ≤ n - c := by rw [hm]; exact Nat.min_le_right _ _
        have h3 : 1 ≤ m := by rw [hm]; exact Nat.le_min.2 ⟨hc.1, by omega⟩
        omega
      obtain ⟨cs, hcs⟩ : ∃ cs, cs = (List.replicate m x).map (Value.int .i64) := ⟨_, rfl⟩
      have hcl : cs.length = m := by rw [hcs]; simp
      have HMN := hidden (show cs.length = Nat.min c (n - c) by rw [hcl, hm])
      have HFIT := hidden (show c + cs.length ≤ ((repL x n c).map (Value.int .i64)).length by rw [List.length_map, repL_len x hc.2, hcl]; exact hm1.2.1)
      have H1 := hidden (show ∀ v ∈ cs, v.oneCell' = true from fun v hv => by rw [hcs] at hv; obtain ⟨q, _, rfl⟩ := List.mem_map.1 hv; rfl)
      have HSRC := hidden (show ∀ j v, cs[j]? = some v → wr.drew.cell? ((⟨w.heap.size, 0, none⟩ : Addr).add j) = some v from fun j v hv => by
        have hj : j < m := by have := (List.getElem?_eq_some_iff.1 hv).1; omega
        rw [hcs, List.getElem?_map, List.getElem?_replicate, if_pos hj] at hv
        rw [Addr.add_lit, Nat.zero_add]
        have hc1 := HRW.out.cell (i := j) (by rw [repL_len x hc.2]; omega) 0
        rw [repL_at x (by omega)] at hc1
        exact hc1.trans hv)
      have HGd := hidden (show wr.drew.heap[w.heap.size]? = some (.cells ((repL x n c).map (Value.int .i64)).toArray 3 (0, 0)) from HRW.out)
      have HBd := hidden HB.out.drew
      have HCS := hidden hcs
      have HCL := hidden hcl
      have hnc : ¬ n = c := by omega
      clear hm hcs hcl
      go_wp2_with fail
      go_region_law (refine step_copy_splice rfl (.tmp 41) (.tmp 44) 24 24 rfl 3 Tryz.underlying24 (by kernel_rfl) (some ⟨w.heap.size, c, none⟩) (some ⟨w.heap.size, 0, none⟩) (n - c) (n - c) c n (by kernel_rfl) (by kernel_rfl) w.heap.size c ((repL x n c).map (Value.int .i64)) 3 HGd.out cs HMN.out (fun _ => ⟨rfl, _, rfl, HSRC.out⟩) HFIT.out H1.out w.heap.size w HBd.out (Nat.le_refl _) ?_; intro w7 hg7 hb7; have HR7 := hidden (show RowAt w7 w.heap.size 3 (Value.int .i64) (repL x n (c + m)) from by have h5 := hg7.out; rw [HCS.out, splice_rep x n c m] at h5; exact h5); have HB7 := hidden hb7; rw [show goInt cs.length = .int .i64 (m : Nat) from by rw [HCL.out]; rfl]; clear hg7 hb7)
      have hwr : IntKind.i64.wrap ((c : Int) + (m : Int)) = ((c + m : Nat) : Int) := by
        simp only [IntKind.wrap, IntKind.bits, IntKind.signed]
        simp
        omega
      go_simp
      go_roundw
      case rel => exact ⟨_, _, _, _, _, _, _, _, _, _, _, _, _, _, ⟨c + m, ⟨by omega, by omega⟩, by first | (rw [hwr]) | (rw [Int.natCast_add]) | (simp; done) | (trace_state; go_num), HR7.out, HB7.out⟩, rfl⟩
      case measure =>
        simp [Go.RowKit.intOf] at hwr ⊢
        omega
    · obtain rfl : c = n := by omega
      have HF := hidden (show repL x c c = List.replicate c x by simp [repL])
      go_wp2
      go_ret
      exact ⟨w.heap.size, rfl, Nat.le_refl _, by rw [← HF.out]; exact HRW.out, HB.out⟩
end Go.Proofs.YtnjjbaodfjmiaaaGreat

/- Contract of the program's renumbered. -/
namespace Go.Proofs.YtnjjbaodfjmiaaaGreat
open Go.RowKit Go.Lib Go.Joins

def rnX (nm : List Int) (x : Int) : Int := if x = -1 then -1 else nm.getD x.toNat 0
/-- the row, its first c numbers new -/
structure RnAt (w0 w : World) (g cap : Nat) (l nm : List Int) (c : Nat) : Prop where
  r : ∃ cl, RowAt w g 3 (fun v => v) cl ∧ cl.length = cap ∧ ∀ k, k < l.length → cl.getD k undef = .int .i64 (if k < c then rnX nm (l.getD k 0) else l.getD k 0)
  b : Below w0.heap.size w0 w
theorem RnAt.keep {w0 w : World} {g cap : Nat} {l nm : List Int} {c : Nat} (h : RnAt w0 w g cap l nm c) (hx : l.getD c 0 = -1) : RnAt w0 w g cap l nm (c + 1) := by
  obtain ⟨⟨cl, h1, h2, h3⟩, hb⟩ := h
  refine ⟨⟨cl, h1, h2, fun k hk => ?_⟩, hb⟩
  rw [h3 k hk]
  by_cases e : k = c
  · subst e
    rw [if_neg (by omega), if_pos (by omega), hx]
    rfl
  · by_cases h4 : k < c
    · rw [if_pos h4, if_pos (by omega)]
    · rw [if_neg h4, if_neg (by omega)]
theorem RnAt.put {w0 w : World} {g cap : Nat} {l nm : List Int} {c : Nat} (h : RnAt w0 w g cap l nm c) (hg : w0.heap.size ≤ g) (hl : l.length ≤ cap) {x : Int} (hx : l.getD c 0 = x) (hx1 : x ≠ -1) : RnAt w0 (w.setCell ⟨g, c, none⟩ (.int .i64 (nm.getD x.toNat 0))) g cap l nm (c + 1) := by
  obtain ⟨⟨cl, h1, h2, h3⟩, hb⟩ := h
  refine ⟨⟨cl.set c (.int .i64 (nm.getD x.toNat 0)), h1.set c _, by rw [List.length_set]; exact h2, fun k hk => ?_⟩, hb.setCell (p := ⟨g, c, none⟩) hg _⟩
  rw [getD_setV _ _ _ _ (by omega)]
  by_cases e : c = k
  · subst e
    rw [if_pos rfl, if_pos (by omega), hx]
    unfold rnX
    rw [if_neg hx1]
  · rw [if_neg e, h3 k hk]
    by_cases h4 : k < c
    · rw [if_pos h4, if_pos (by omega)]
    · rw [if_neg h4, if_neg (by omega)]
theorem RnAt.done {w0 w : World} {g cap : Nat} {l nm : List Int} (h : RnAt w0 w g cap l nm l.length) (hg : w0.heap.size ≤ g) (hl : l.length ≤ cap) (hc : cap ≤ maxLen) : RowZ w w0.heap.size (.slice (some ⟨g, 0, none⟩) l.length cap) (l.map (rnX nm)) := by
  obtain ⟨⟨cl, h1, h2, h3⟩, hb⟩ := h
  refine ⟨by simp, .inr ⟨g, cap, cl.toArray, by rw [List.length_map], hg, by unfold RowAt at h1; rw [h1]; simp, by simpa using hl, hc, by simp [h2], ?_⟩⟩
  rw [List.length_map, Nat.mul_one]
  refine ext_getD (by simp; omega) fun k hk => ?_
  have hk' : k < l.length := by simp at hk; omega
  rw [List.getD_eq_getElem?_getD, List.getElem?_take, if_pos hk', ← List.getD_eq_getElem?_getD, h3 k hk', if_pos hk']
  conv => rhs; rw [List.getD_eq_getElem?_getD, List.getElem?_map, List.getElem?_map, List.getElem?_eq_getElem hk']
  rw [List.getD_eq_getElem?_getD, List.getElem?_eq_getElem hk']
  rfl
theorem RnAt.cells {w0 w : World} {g cap : Nat} {l nm : List Int} {c : Nat} (h : RnAt w0 w g cap l nm c) (i : Nat) : w.frozen? ⟨g, i, none⟩ = false ∧ g < w.heap.size := by
  obtain ⟨⟨cl, h1, _⟩, _⟩ := h
  exact ⟨h1.frozen i, h1.lt⟩
theorem RnAt.cell {w0 w : World} {g cap : Nat} {l nm : List Int} {c : Nat} (h : RnAt w0 w g cap l nm c) (hl : l.length ≤ cap) {i : Nat} (hi : i < l.length) : ∃ v, w.cell? ⟨g, i, none⟩ = some v := by
  obtain ⟨⟨cl, h1, h2, _⟩, _⟩ := h
  exact ⟨_, h1.cell (i := i) (by omega) undef⟩
set_option maxHeartbeats 8000000 in
set_option maxRecDepth 100000 in
theorem renumbered_calls {w : World} {b2 off2 W c' NB n nc : Nat} {l nm : List Int} (hW : l.length = W) (hW1 : W ≤ 1000) (hb2 : b2 < w.heap.size) (hrow : ∀ c, c < W → w.cell? ⟨b2, off2 + c, none⟩ = some (.int .i64 (l.getD c 0))) (hNB : NB < w.heap.size) (hnum : ∀ j, j < n → w.cell? ⟨NB, j, none⟩ = some (.int .i64 (nm.getD j 0))) (hx : ∀ c, c < W → -1 ≤ l.getD c 0 ∧ l.getD c 0 < n) :
    Calls Tryz.prog 31 #[.slice (some ⟨b2, off2, none⟩) W c', .slice (some ⟨NB, 0, none⟩) n nc] w (RetZ w (l.map (rnX nm))) := by
  have HC := hidden (Go.Proofs.Tryz.slices_Clone_int b2 off2 W c' l w (by omega) (by omega) (by rw [hW]; exact hrow))
  rw [← hW, List.take_of_length_le (Nat.le_refl _)] at HC
  rw [hW] at HC
  have HROW := hidden hrow
  have HNUM := hidden hnum
  have HXX := hidden hx
  have HW := hidden hW
  have HB2 := hidden hb2
  have HNB := hidden hNB
  clear hrow hnum hx hW
  go_enter Tryz.func31, Tryz.ntmps31
  go_wp2_with fail
  refine HC.out.mono ?_
  rintro e w1 ⟨v, rfl, hr, hnn, hb1⟩
  obtain ⟨g, cap, e1, hgb, hcap, hmax, hR⟩ : ∃ g cap, v = .slice (some ⟨g, 0, none⟩) W cap ∧ w.heap.size ≤ g ∧ W ≤ cap ∧ cap ≤ maxLen ∧ RnAt w w1 g cap l nm 0 := by
    rcases hr.2 with ⟨e, _⟩ | ⟨g, cap, cur, e, hb, hg, h1, h2, h3, h4⟩
    · exact absurd e hnn
    · refine ⟨g, cap, e, hb, h1, h2, ⟨cur.toList, by unfold RowAt; rw [hg]; simp, by simpa using h3, fun k hk => ?_⟩, hb1⟩
      rw [if_neg (by omega)]
      have h5 : (cur.toList.take (W * 1)).getD k undef = (l.map (Value.int .i64)).getD k undef := by rw [h4]
      rw [List.getD_eq_getElem?_getD, List.getElem?_take, if_pos (by rw [Nat.mul_one, ← HW.out]; exact hk), ← List.getD_eq_getElem?_getD] at h5
      rw [h5]
      conv => lhs; rw [List.getD_eq_getElem?_getD, List.getElem?_map, List.getElem?_eq_getElem hk]
      rw [List.getD_eq_getElem?_getD, List.getElem?_eq_getElem hk]
      rfl
  subst e1
  have HR0 := hidden hR
  clear hr hnn hb1 hR
  go_wp2
  go_loopw [12] (fun iv wr => ∃ c : Nat, c ≤ W ∧ iv = .int .i64 c ∧ RnAt w wr g cap l nm c) (fun i _ => W - (Go.RowKit.intOf i).toNat)
  case atStart => exact ⟨0, by omega, rfl, HR0.out⟩
  case round =>
    obtain ⟨c, hc, rfl, hR⟩ := hrel
    have HR := hidden hR
    by_cases hlt : c < W
    · have r1 := (hR.b.cell (p := ⟨b2, off2 + c, none⟩) HB2.out).trans (HROW.out c hlt)
      have hxx := HXX.out c hlt
      have HK := hidden (fun h => hR.keep h)
      have HPT := hidden (fun (y : Nat) (h : l.getD c 0 = (y : Int)) => hR.put hgb (by rw [HW.out]; exact hcap) h (by omega))
      obtain ⟨f0, hgl⟩ := hR.cells c
      obtain ⟨v0, k0⟩ := hR.cell (by rw [HW.out]; exact hcap) (i := c) (by rw [HW.out]; exact hlt)
      have hbw := hR.b
      obtain ⟨x, hx⟩ : ∃ x, x = l.getD c 0 := ⟨_, rfl⟩
      rw [← hx] at r1 hxx HK HPT
      clear hx hR
      by_cases h1 : x = -1
      · subst h1
        have HK2 := hidden (HK.out rfl)
        clear hxx hbw
        go_wp2
        go_roundw
        case rel => exact ⟨c + 1, by omega, by go_num, HK2.out⟩
        case measure => simp [Go.RowKit.intOf]; omega
      · obtain ⟨y, rfl⟩ : ∃ y : Nat, x = y := ⟨x.toNat, by omega⟩
        have hyn : y < n := by omega
        have r2 := (hbw.cell (p := ⟨NB, y, none⟩) HNB.out).trans (HNUM.out y hyn)
        have HP2 := hidden (HPT.out y rfl)
        rw [Int.toNat_natCast] at HP2
        have q1 : ((y : Int) == -1) = false := by simp <;> omega
        have q2 : ((y : Int) != -1) = true := by simp <;> omega
        have q3 : decide ((y : Int) = -1) = false := by simp <;> omega
        obtain ⟨z, hz⟩ : ∃ z, z = nm.getD y 0 := ⟨_, rfl⟩
        rw [← hz] at r2 HP2
        have hyd : (y : Int) < (n : Int) := by omega
        clear hxx hbw h1 hz
        go_wp2
        go_roundw
        case rel => exact ⟨c + 1, by omega, by go_num, HP2.out⟩
        case measure => simp [Go.RowKit.intOf]; omega
    · obtain rfl : c = W := by omega
      have HF := hidden (show RowZ wr w.heap.size (.slice (some ⟨g, 0, none⟩) c cap) (l.map (rnX nm)) from by
        have h5 := hR
        rw [← HW.out] at h5 ⊢
        exact h5.done hgb (by rw [HW.out]; exact hcap) hmax)
      clear hR
      go_wp2
      go_ret
      exact ⟨_, rfl, HF.out, HR.out.b⟩
end Go.Proofs.YtnjjbaodfjmiaaaGreat

/- Contract of the program's Trim. -/
namespace Go.Proofs.YtnjjbaodfjmiaaaGreat
open Go.RowKit Go.Lib Go.Joins
attribute [local go_sem] Rl.evalR_tmp Rl.evalR_const Rl.evalR_global Rl.evalR_func

/-- the numbers of the states below i that count; none elsewhere -/
def numP (D : DfaM) (i : Nat) : List Int := (List.range D.next.length).map fun j => if j < i ∧ kept D j = true then (rankD D j : Int) else -1
theorem numP_len (D : DfaM) (i : Nat) : (numP D i).length = D.next.length := by simp [numP]
theorem numP_zero (D : DfaM) : numP D 0 = List.replicate D.next.length (-1) := by
  refine List.ext_getElem (by simp [numP]) fun i h1 h2 => ?_
  simp [numP]
theorem numP_more (D : DfaM) (i : Nat) (hk : kept D i = true) : (numP D i).set i (rankD D i : Int) = numP D (i + 1) := by
  refine List.ext_getElem (by simp [numP]) fun k h1 h2 => ?_
  rw [List.getElem_set]
  simp only [numP, List.getElem_map, List.getElem_range]
  by_cases e : i = k
  · subst e
    simp [hk]
  · rw [if_neg e]
    by_cases h : k < i ∧ kept D k = true
    · rw [if_pos h, if_pos ⟨by omega, h.2⟩]
    · rw [if_neg h, if_neg (fun h2 => h ⟨by omega, h2.2⟩)]
theorem numP_stay (D : DfaM) (i : Nat) (hk : kept D i = false) : numP D i = numP D (i + 1) := by
  refine List.ext_getElem (by simp [numP]) fun k h1 h2 => ?_
  simp only [numP, List.getElem_map, List.getElem_range]
  by_cases h : k < i ∧ kept D k = true
  · rw [if_pos h, if_pos ⟨by omega, h.2⟩]
  · rw [if_neg h, if_neg (fun h2 => by
      by_cases e : k = i
      · subst e; rw [hk] at h2; cases h2.2
      · exact h ⟨by omega, h2.2⟩)]
theorem ren_rn {D : DfaM} {x : Int} (h0 : -1 ≤ x) (h1 : x < D.next.length) : rnX (numP D D.next.length) x = renD D x := by
  unfold rnX renD
  by_cases e : x = -1
  · subst e
    rfl
  · rw [if_neg e, if_neg (by omega), getD_lt (by rw [numP_len]; omega)]
    simp only [numP, List.getElem_map, List.getElem_range]
    by_cases h : kept D x.toNat = true
    · rw [if_pos ⟨by omega, h⟩, if_pos h]
    · rw [if_neg (fun h2 => h h2.2), if_neg h]
def keptZ (D : DfaM) (i : Nat) : List Int := (keptL D i).map fun (j : Nat) => (j : Int)
theorem keptZ_len (D : DfaM) (i : Nat) : (keptZ D i).length = (keptL D i).length := by unfold keptZ; rw [List.length_map]
theorem keptZ_more (D : DfaM) (i : Nat) : keptZ D (i + 1) = keptZ D i ++ if kept D i = true then [(i : Int)] else [] := by
  unfold keptZ
  rw [keptL_more, List.map_append]
  split <;> rfl
/-- what stands in the machine behind k states that count -/
def kpN (D : DfaM) (k : Nat) : List (List Int) := ((keptL D D.next.length).take k).map fun j => (D.next.getD j []).map (renD D)
def kpL (D : DfaM) (k : Nat) : List Int := ((keptL D D.next.length).take k).map fun j => D.label.getD j 0
theorem take_one {l : List Nat} {k : Nat} (h : k < l.length) : l.take (k + 1) = l.take k ++ [l.getD k 0] := by
  rw [List.take_succ_eq_append_getElem h, List.getD_eq_getElem?_getD, List.getElem?_eq_getElem h]
  rfl
theorem kpN_more {D : DfaM} {k : Nat} (h : k < (keptL D D.next.length).length) : kpN D (k + 1) = kpN D k ++ [(D.next.getD ((keptL D D.next.length).getD k 0) []).map (renD D)] := by
  unfold kpN
  rw [take_one h, List.map_append]
  rfl
theorem kpL_more {D : DfaM} {k : Nat} (h : k < (keptL D D.next.length).length) : kpL D (k + 1) = kpL D k ++ [D.label.getD ((keptL D D.next.length).getD k 0) 0] := by
  unfold kpL
  rw [take_one h, List.map_append]
  rfl
theorem kX_is {D : DfaM} {k : Nat} (h : k = (keptL D D.next.length).length) : trimX D = ⟨D.cls, D.width, kpN D k, kpL D k⟩ := by
  unfold kpN kpL
  rw [h, List.take_length]
  rfl
theorem kpN_len {D : DfaM} (k : Nat) : (kpN D k).length ≤ k ∧ (kpL D k).length ≤ k := by
  unfold kpN kpL
  simp
  omega
theorem keptL_lt {D : DfaM} {n k : Nat} (h : k < (keptL D n).length) : (keptL D n).getD k 0 < n := by
  rw [List.getD_eq_getElem?_getD, List.getElem?_eq_getElem h]
  have := List.mem_filter.1 (show (keptL D n)[k] ∈ (List.range n).filter (kept D) from List.getElem_mem h)
  exact List.mem_range.1 this.1
theorem keptL_le (D : DfaM) (i : Nat) : (keptL D i).length ≤ i := by
  unfold keptL
  exact Nat.le_trans (List.length_filter_le _ _) (by simp)
set_option maxHeartbeats 8000000 in
set_option maxRecDepth 100000 in
theorem ltrim_calls {w : World} {vn vl : Value} {D : DfaM} (h : RdDfa w.heap.size w vn vl D) (hN : D.next.length ≤ 1000) :
    Calls Tryz.prog 15 #[dfaA D.cls D.width vn vl] w (RetD w (trimM D)) := by
  obtain ⟨an, cn, rfl⟩ := h.next.form
  obtain ⟨al, cl, rfl⟩ := h.label.form
  have HR := hidden (fun w' (hb : Below w.heap.size w w') => right14_calls (h.below hb hb.size))
  have HRE := hidden (fun hr w' (hb : Below w.heap.size w w') => preached_calls hr (h.below hb hb.size) hN)
  have HAL := hidden (fun hr w' (hb : Below w.heap.size w w') => palive_calls hr (h.below hb hb.size) hN)
  have HD := hidden h
  obtain ⟨ln, hln⟩ : ∃ m, m = D.label.length := ⟨_, rfl⟩
  obtain ⟨n, hn⟩ : ∃ n, n = D.next.length := ⟨_, rfl⟩
  have HX := hidden (DfaAt.new w D.cls D.width (.slice an D.next.length cn) (.slice al D.label.length cl))
  have HB0 := hidden ((Below.refl w.heap.size w).alloc (Nat.le_refl _) (.cells (dfaC D.cls D.width (.slice an D.next.length cn) (.slice al D.label.length cl)) 26))
  have hbx := run_box_dfa D.cls D.width (.slice an D.next.length cn) (.slice al D.label.length cl)
  rw [← hn, ← hln] at HD HX HB0 HR HRE HAL hbx ⊢
  rw [← hn] at hN
  have HN := hidden hn
  have HLN := hidden hln
  have HBX := hidden hbx
  have hal := run_zero_dfa
  have hbu := run_build_dfa
  have HXa := hidden (HX.out.alloc (.cells (dfaC zG 0 (.slice none 0 0) (.slice none 0 0)) 26))
  clear h hn hln
  go_enter Tryz.func15, Tryz.ntmps15
  go_wp2_with (refine load_dfa rfl (x := .tmp 1) rfl rfl HXa.out ?_)
  obtain ⟨w0, hw0⟩ : ∃ w0, w0 = w.alloc (.cells (dfaC D.cls D.width (.slice an n cn) (.slice al ln cl)) 26) := ⟨_, rfl⟩
  have hs0 : w0.heap.size = w.heap.size + 1 := by rw [hw0]; simp
  rw [← hw0] at HX HB0 HXa ⊢
  have HS0 := hidden hs0
  have HRB := hidden (show DfaAt (w0.alloc (.cells (dfaC zG 0 (.slice none 0 0) (.slice none 0 0)) 26)) (w.heap.size + 1) zG 0 (.slice none 0 0) (.slice none 0 0) from DfaAt.newAt hs0)
  have HBa := hidden ((Below.refl (w.heap.size + 1) w0).alloc (Nat.le_of_eq hs0.symm) (.cells (dfaC zG 0 (.slice none 0 0) (.slice none 0 0)) 26))
  have HBw := hidden (HB0.out.alloc HB0.out.size (.cells (dfaC zG 0 (.slice none 0 0) (.slice none 0 0)) 26))
  clear hw0 hs0 hbx
  obtain ⟨wa, hwa⟩ : ∃ wa, wa = w0.alloc (.cells (dfaC zG 0 (.slice none 0 0) (.slice none 0 0)) 26) := ⟨_, rfl⟩
  rw [← hwa] at HXa HRB HBa HBw ⊢
  clear hwa
  refine (HR.out _ HBw.out).mono ?_
  rintro e w1 ⟨rfl, hb1⟩
  have HX1 := hidden (HXa.out.below hb1)
  have HR1 := hidden (HRB.out.below hb1)
  have HB1 := hidden (below_then HBa.out (Nat.le_trans (Nat.le_of_eq HS0.out.symm) HBa.out.size) hb1)
  have HBW1 := hidden (below_then HBw.out HBw.out.size hb1)
  clear hb1 HXa HRB HBa HBw
  cases hr : rightD D with
  | false =>
    have HF := hidden (show trimM D = zeroD by unfold trimM; rw [if_neg (by simp [hr])])
    clear hr
    go_wp2_with (refine store_dfa rfl (x := .tmp 2) (y := .tmp 14) rfl rfl rfl HR1.out rfl rfl ?_; intro w2 hA2 hg2 hs2; have HA2 := hidden hA2; have HB2 := hidden (HBW1.out.grown hg2 HBW1.out.size (by intro k hk; simp only [Option.some.injEq] at hk; omega)); clear hA2 hg2)
    refine ret_dfa1 Tryz.results15 rfl rfl HA2.out ⟨.slice none 0 0, .slice none 0 0, ?_, ?_, HB2.out⟩
    · rw [HF.out]; rfl
    · rw [HF.out]; exact zeroD_reads _
  | true =>
    have HRT := hidden hr
    have HL := hidden (show trimM D = trimX D by unfold trimM; rw [if_pos hr])
    clear hr
    go_wp2_with fail
    refine Rl.wp_region_steps (R := fun w1 w2 => Below w1.heap.size w1 w2) (Rl.typ [Rl.Is (dfaA D.cls D.width (.slice an n cn) (.slice al ln cl)), RdBoolV (reachedL D), Rl.Is (dfaA D.cls D.width (.slice an n cn) (.slice al ln cl)), RdBoolV (aliveL D), RdBoolV (reachedL D), RdBoolV (aliveL D)]) (fun w' => Below w1.heap.size w1 w') (by kernel_rfl) (by kernel_rfl) (by kernel_rfl) (by kernel_rfl) ?mono (Below.refl _ _).drew [] (by kernel_rfl) ?guards ?step ?fin
    case mono =>
      refine Rl.typ_mono ?_
      simp only [List.forall_mem_cons]
      repeat' (first | exact (fun v w w' h _ => h) | exact (fun v w w' h hb => RdB.below h hb hb.size) | (intro p hp; cases hp; done) | refine And.intro ?_ ?_)
    case guards => intro g hg; cases hg
    case step =>
      refine ⟨?_, ?_, ?_, ?_, ?_, ?_, trivial⟩
      · intro ρ w2 hF hW
        have e1 : ρ 1 = .pointer (some ⟨w.heap.size, 0, none⟩) := hF 1 (by decide)
        have HW := hidden hW
        exact does_load_dfaT rfl e1 (HX1.out.below HW.out) ⟨rfl, HW.out, Below.refl _ _⟩
      · intro ρ w2 hF hW
        have f15 : ρ 15 = dfaA D.cls D.width (.slice an n cn) (.slice al ln cl) := hF 15 (by decide)
        have HW := hidden hW
        clear hF hW
        unfold Rl.Does
        go_simp
        refine (HRE.out HRT.out _ (below_then HBW1.out HBW1.out.size HW.out)).mono ?_
        rintro e w3 ⟨v, rfl, hr, hb, _⟩
        exact ⟨_, rfl, hr, below_after HW.out hb, hb⟩
      · intro ρ w2 hF hW
        have e1 : ρ 1 = .pointer (some ⟨w.heap.size, 0, none⟩) := hF 1 (by decide)
        have HW := hidden hW
        exact does_load_dfaT rfl e1 (HX1.out.below HW.out) ⟨rfl, HW.out, Below.refl _ _⟩
      · intro ρ w2 hF hW
        have f17 : ρ 17 = dfaA D.cls D.width (.slice an n cn) (.slice al ln cl) := hF 17 (by decide)
        have HW := hidden hW
        clear hF hW
        unfold Rl.Does
        go_simp
        refine (HAL.out HRT.out _ (below_then HBW1.out HBW1.out.size HW.out)).mono ?_
        rintro e w3 ⟨v, rfl, hr, hb, _⟩
        exact ⟨_, rfl, hr, below_after HW.out hb, hb⟩
      · intro ρ w2 hF hW
        have f16 : RdB w2.heap.size w2 (ρ 16) (reachedL D) := hF 16 (by decide)
        have HW := hidden hW
        have HE := hidden f16
        clear hF hW f16
        unfold Rl.Does
        go_simp
        exact ⟨HE.out, HW.out, Below.refl _ _⟩
      · intro ρ w2 hF hW
        have f18 : RdB w2.heap.size w2 (ρ 18) (aliveL D) := hF 18 (by decide)
        have HW := hidden hW
        have HE := hidden f18
        clear hF hW f18
        unfold Rl.Does
        go_simp
        exact ⟨HE.out, HW.out, Below.refl _ _⟩
    case fin =>
      intro a1 w2 hs hv hW
      have h3 : RdB w2.heap.size w2 (a1.tmps.getD 3 undef) (reachedL D) := hv 4 3 (by kernel_rfl)
      have h4 : RdB w2.heap.size w2 (a1.tmps.getD 4 undef) (aliveL D) := hv 5 4 (by kernel_rfl)
      have HX2 := hidden (HX1.out.below hW)
      have HR2 := hidden (HR1.out.below hW)
      have HB2 := hidden (below_then HB1.out (Nat.le_trans (Nat.le_of_eq HS0.out.symm) HB1.out.size) hW)
      have HBW2 := hidden (below_then HBW1.out HBW1.out.size hW)
      have hd := hs.defers
      have hz := hs.lit [15, 16, 17, 18, 3, 4] (by kernel_rfl)
      clear hs hv hW
      obtain ⟨tm, df⟩ := a1
      simp only at hz hd h3 h4
      simp only [List.foldl_cons, List.foldl_nil, List.setIfInBounds_toArray, List.set_cons_zero, List.set_cons_succ] at hz
      obtain ⟨ra, rc, hv3⟩ := h3.form
      obtain ⟨aa, ac, hv4⟩ := h4.form
      have HRV := hidden h3
      have HAV := hidden h4
      rw [hv3] at HRV hz
      rw [hv4] at HAV hz
      generalize tm.getD 15 undef = v15 at hz
      generalize tm.getD 16 undef = v16 at hz
      generalize tm.getD 17 undef = v17 at hz
      generalize tm.getD 18 undef = v18 at hz
      clear h3 h4 hv3 hv4
      subst hz hd
      have HXa2 := hidden (HX2.out.alloc (.cells #[.int .i64 (-1)] 3))
      have e2 := HXa2.out.next
      have hn0 : 0 < n := by have := (rightD_spec HRT.out).2.2.1; have := HN.out; omega
      have HREP := hidden (repeat_calls (w := w2.alloc (.cells #[.int .i64 (-1)] 3)) (b := w2.heap.size) (x := -1) (n := n) (cell_of_row _ _ 0 _ _ _ (heap_alloc_new w2 _)) hn0 hN)
      have hs2 : (w2.alloc (.cells #[.int .i64 (-1)] 3)).heap.size = w2.heap.size + 1 := by simp
      rw [hs2] at HREP
      have HBa2 := hidden ((Below.refl w2.heap.size w2).alloc (Nat.le_refl _) (.cells #[.int .i64 (-1)] 3))
      clear hs2
      go_wp2_with fail
      refine HREP.out.mono ?_
      rintro e w3 ⟨NB, rfl, hNB, hrow3, hb3⟩
      have HB3 := hidden (show Below w2.heap.size w2 w3 from below_join HBa2.out (hb3.mono (Nat.le_succ _)))
      have HROW3 := hidden hrow3
      have HNB := hidden hNB
      have hnbl := hrow3.lt
      have HX3 := hidden (show DfaAt w3 w.heap.size D.cls D.width (.slice an n cn) (.slice al ln cl) from HX2.out.under HB3.out HX2.out.lt)
      have HR3 := hidden (show DfaAt w3 (w.heap.size + 1) zG 0 (.slice none 0 0) (.slice none 0 0) from HR2.out.under HB3.out HR2.out.lt)
      have HRN := hidden (show (reachedL D).length = n by rw [reached_len HRT.out, HN.out])
      have HAN := hidden (show (aliveL D).length = n by rw [alive_len HRT.out, HN.out])
      have HNL := hidden (fun i => show (numP D i).length = n by rw [numP_len, HN.out])
      rw [HRN.out] at HRV
      rw [HAN.out] at HAV
      rw [HRN.out, HAN.out]
      clear hb3 hrow3 e2 hn0 HREP HXa2 HBa2
      go_wp2_with fail
      go_loopw [5, 26] (fun kv iv wr => ∃ i : Nat, i ≤ n ∧ iv = .int .i64 i ∧ (RowAt wr NB 3 (Value.int .i64) (numP D i) ∧ RowZ wr w2.heap.size kv (keptZ D i) ∧ (∀ k, kv.ownBlock = some k → k ≠ NB) ∧ Below w2.heap.size w2 wr)) (fun _ i _ => n - (Go.RowKit.intOf i).toNat)
      case atStart => exact ⟨0, by omega, rfl, by rw [numP_zero, ← HN.out]; exact HROW3.out, RowZ.nil _ _, (fun k hk => by cases hk), HB3.out⟩
      case round =>
        obtain ⟨i, hi, rfl, hrow, hkr, hkn, hbe⟩ := hrel
        obtain ⟨ka, kc, hkv⟩ := hkr.form
        subst hkv
        have HROW := hidden hrow
        have HBE := hidden hbe
        have HKR := hidden hkr
        have HKN := hidden hkn
        rw [keptZ_len] at hkr hkn HKR HKN ⊢
        by_cases hlt : i < n
        · obtain ⟨b1, o1, rfl, _, c1⟩ := HRV.out.at HBE.out i (by rw [HRN.out]; exact hlt)
          obtain ⟨b2, o2, rfl, _, c2⟩ := HAV.out.at HBE.out i (by rw [HAN.out]; exact hlt)
          rw [getD_on] at c1 c2
          have HKP := hidden (show kept D i = (decide (i = 0) || (decide (On (reachedL D) i) && decide (On (aliveL D) i))) from rfl)
          have f0 := hrow.frozen i
          have c0 := hrow.cell (i := i) (by rw [HNL.out]; exact hlt) 0
          have hnl := hrow.lt
          obtain ⟨rk, hrk⟩ : ∃ r, r = (keptL D i).length := ⟨_, rfl⟩
          have hrk2 : rk ≤ 1000 := by have := keptL_le D i; omega
          rw [← hrk] at hkr hkn HKR HKN ⊢
          have hbs2 : w2.heap.size ≤ wr.heap.size := hbe.size
          have hoffN : ∀ k, (Value.slice ka rk kc).ownBlock = some k → k ≠ NB := hkn
          have hws : RowZ (wr.setCell ⟨NB, i, none⟩ (.int .i64 (rk : Nat))) w2.heap.size (.slice ka rk kc) (keptZ D i) := hkr.grownOff (setCell_grown wr NB i _) fun k e e2 => hoffN k e (Option.some.inj e2).symm
          have hal : Below (wr.setCell ⟨NB, i, none⟩ (.int .i64 (rk : Nat))).heap.size (wr.setCell ⟨NB, i, none⟩ (.int .i64 (rk : Nat))) ((wr.setCell ⟨NB, i, none⟩ (.int .i64 (rk : Nat))).alloc (.cells #[.int .i64 (i : Nat)] 3)) := (Below.refl _ _).alloc (Nat.le_refl _) _
          have HRA := hidden (show ((wr.setCell ⟨NB, i, none⟩ (.int .i64 (rk : Nat))).alloc (.cells #[.int .i64 (i : Nat)] 3)).ownsRow w2.heap.size 3 1 (.slice ka rk kc) rk ((keptZ D i).map (Value.int .i64)) from by
            have := hws.kept hal
            unfold RowZ at this
            rw [keptZ_len, ← hrk] at this
            exact this)
          have HI := hidden infoInt
          have HBS := hidden (show w2.heap.size ≤ ((wr.setCell ⟨NB, i, none⟩ (.int .i64 (rk : Nat))).alloc (.cells #[.int .i64 (i : Nat)] 3)).heap.size by simp; omega)
          have HLNB := hidden (show rk + 1 ≤ 1000000 by omega)
          have HFIN := hidden (fun (hK : kept D i = true) (v13 : Value) (w13 : World) (hA : Appd ((wr.setCell ⟨NB, i, none⟩ (.int .i64 (rk : Nat))).alloc (.cells #[.int .i64 (i : Nat)] 3)) w13 w2.heap.size 3 1 (.slice ka rk kc) v13 (rk + 1) ((keptZ D i).map (Value.int .i64) ++ [.int .i64 (i : Nat)])) => show RowAt w13 NB 3 (Value.int .i64) (numP D (i + 1)) ∧ RowZ w13 w2.heap.size v13 (keptZ D (i + 1)) ∧ (∀ k, v13.ownBlock = some k → k ≠ NB) ∧ Below w2.heap.size w2 w13 from by
            have hr1 : RowAt (wr.setCell ⟨NB, i, none⟩ (.int .i64 (rk : Nat))) NB 3 (Value.int .i64) (numP D (i + 1)) := by
              rw [← numP_more D i hK]
              have := hrow.set i (rk : Int)
              rw [hrk] at this ⊢
              exact this
            have hr2 := hr1.alloc (.cells #[.int .i64 (i : Nat)] 3)
            refine ⟨hr2.grown hA.grown (fun e => hoffN NB e rfl), ?_, fun k hk => ?_, ?_⟩
            · unfold RowZ
              rw [keptZ_more, if_pos hK, List.length_append, keptZ_len, ← hrk, List.map_append]
              exact hA.own
            · rcases hA.lies with e | e
              · rw [e] at hk; exact hoffN k hk
              · rw [e] at hk
                simp at hk
                omega
            · exact ((hbe.setCell (p := ⟨NB, i, none⟩) (show w2.heap.size ≤ NB by have := HNB.out; omega) _).alloc (by simp; omega) _).grown hA.grown HBS.out fun k e => by
                have := World.ownsRow.lt HRA.out k e
                omega)
          have HFAL := hidden (fun (hK : kept D i = false) => show RowAt wr NB 3 (Value.int .i64) (numP D (i + 1)) ∧ RowZ wr w2.heap.size (.slice ka rk kc) (keptZ D (i + 1)) ∧ (∀ k, (Value.slice ka rk kc).ownBlock = some k → k ≠ NB) ∧ Below w2.heap.size w2 wr from by
            refine ⟨by rw [← numP_stay D i hK]; exact hrow, ?_, hoffN, hbe⟩
            rw [keptZ_more, hK]
            simpa using hkr)
          clear hrow hkr hkn hbe hrk hws hal hoffN
          have HSZ := hidden (show wr.heap.size = (wr.setCell ⟨NB, i, none⟩ (.int .i64 (rk : Nat))).heap.size by simp)
          by_cases h0 : i = 0
          · have HK := hidden (show kept D i = true by rw [HKP.out, decide_eq_true h0]; rfl)
            have q1 : ((i : Int) == 0) = true := by simp [h0]
            have q2 : decide ((i : Int) = 0) = true := by simp [h0]
            clear h0
            go_wp2_with (at_builtin; (first | refine wpList_app (v := .slice ka rk kc) rfl _ _ rfl HI.out Tryz.underlying24 rfl (by decide) (by decide) rfl HRA.out rfl (Src.one _ (.int .i64 (i : Nat)) 3 _ HSZ.out) (by simp) (by simp [Value.oneCell']) HLNB.out HBS.out ?_ | refine wp_app (v := .slice ka rk kc) _ _ rfl HI.out Tryz.underlying24 rfl (by decide) (by decide) rfl HRA.out rfl (Src.one _ (.int .i64 (i : Nat)) 3 _ HSZ.out) (by simp) (by simp [Value.oneCell']) HLNB.out HBS.out ?_); intro v13 w13 hA; have HF := hidden (HFIN.out HK.out v13 w13 hA); obtain ⟨a13, c13, hv13⟩ := row_slice14 hA.own; subst hv13; clear hA)
            go_roundw
            case rel => exact ⟨i + 1, by omega, by go_num, HF.out⟩
            case measure => simp [Go.RowKit.intOf]; omega
          · have q1 : ((i : Int) == 0) = false := by simp [h0]
            have q2 : decide ((i : Int) = 0) = false := by simp [h0]
            rw [decide_eq_false h0, Bool.false_or] at HKP
            clear h0
            by_cases hr : On (reachedL D) i
            · rw [decide_eq_true hr] at c1 HKP
              by_cases ha : On (aliveL D) i
              · rw [decide_eq_true ha] at c2 HKP
                have HK := hidden (show kept D i = true from HKP.out)
                clear hr ha
                go_wp2_with (at_builtin; (first | refine wpList_app (v := .slice ka rk kc) rfl _ _ rfl HI.out Tryz.underlying24 rfl (by decide) (by decide) rfl HRA.out rfl (Src.one _ (.int .i64 (i : Nat)) 3 _ HSZ.out) (by simp) (by simp [Value.oneCell']) HLNB.out HBS.out ?_ | refine wp_app (v := .slice ka rk kc) _ _ rfl HI.out Tryz.underlying24 rfl (by decide) (by decide) rfl HRA.out rfl (Src.one _ (.int .i64 (i : Nat)) 3 _ HSZ.out) (by simp) (by simp [Value.oneCell']) HLNB.out HBS.out ?_); intro v13 w13 hA; have HF := hidden (HFIN.out HK.out v13 w13 hA); obtain ⟨a13, c13, hv13⟩ := row_slice14 hA.own; subst hv13; clear hA)
                go_roundw
                case rel => exact ⟨i + 1, by omega, by go_num, HF.out⟩
                case measure => simp [Go.RowKit.intOf]; omega
              · rw [decide_eq_false ha] at c2 HKP
                have HF := hidden (HFAL.out (show kept D i = false from HKP.out))
                clear hr ha
                go_wp2
                go_roundw
                case rel => exact ⟨i + 1, by omega, by go_num, HF.out⟩
                case measure => simp [Go.RowKit.intOf]; omega
            · rw [decide_eq_false hr] at c1 HKP
              have HF := hidden (HFAL.out (show kept D i = false from by rw [HKP.out]; rfl))
              clear hr
              go_wp2
              go_roundw
              case rel => exact ⟨i + 1, by omega, by go_num, HF.out⟩
              case measure => simp [Go.RowKit.intOf]; omega
        · obtain rfl : n = i := by omega
          have HXw := hidden (HX2.out.under hbe HX2.out.lt)
          have HRw := hidden (HR2.out.under hbe HR2.out.lt)
          have e1 := HXw.out.width
          have hDB : NB < wr.heap.size := hrow.lt
          have hrk2 : w.heap.size + 1 < w2.heap.size := HR2.out.lt
          have hbs2 : w2.heap.size ≤ wr.heap.size := hbe.size
          have HKZL := hidden (keptZ_len D n)
          clear hrow hkr hkn
          go_wp2_with (first
            | (refine load_any14 rfl (x := .tmp 53) rfl rfl (run_load_cls HXw.out) ?_)
            | (refine wp_load_any (x := .tmp 53) rfl rfl (run_load_cls HXw.out) ?_)
            | (refine build_dfa2 rfl (x := .tmp 54) (y := .tmp 56) rfl rfl rfl ?_)
            | (refine store_dfa rfl (x := .tmp 8) (y := .tmp 57) rfl rfl rfl (DfaAt.new wr zG 0 (.slice none 0 0) (.slice none 0 0)) rfl rfl ?_; intro w4 hA4 hg4 hs4; have HA4 := hidden hA4; have HG4 := hidden hg4; have HS4 := hidden hs4; clear hA4 hg4 hs4)
            | fail)
          have HBn := hidden (below_then HB2.out (Nat.le_trans (Nat.le_of_eq HS0.out.symm) HB2.out.size) hbe)
          have hst : TrSt w0 (w.heap.size + 1) w4 (w.heap.size + 1) wr.heap.size D.cls D.width (.slice none 0 0) (.slice none 0 0) (.slice none 0 0) [] [] [] [] [.slice (some ⟨NB, 0, none⟩) n n, .slice ka (keptL D n).length kc] [numP D n, keptZ D n] := by
            have ho : ∀ k, k < wr.heap.size → w4.heap[k]? = wr.heap[k]? := fun k hk => by
              rw [HG4.out.block k (by simp; omega) (by simp; omega)]
              exact heap_alloc_old wr _ hk
            refine TrSt.start HA4.out ((ho _ (by omega)).trans HRw.out) (by omega) ⟨Nat.le_refl _, by omega⟩ ((HBn.out.alloc (by omega) _).grown HG4.out (by simp; omega) (by intro k hk; simp only [Option.some.injEq] at hk; omega)) (Nat.le_of_eq HS0.out.symm) ⟨rfl, fun j hj => ?_⟩
            have hj2 : j = 0 ∨ j = 1 := by simp at hj; omega
            rcases hj2 with rfl | rfl
            · have hrow4 : RowAt w4 NB 3 (Value.int .i64) (numP D n) := (ho NB (by omega)).trans HROW.out
              exact hrow4.el (by rw [HNL.out]; omega) (HNL.out n).symm ⟨hrow4.lt, by have := HNB.out; omega, by omega⟩
            · have hk4 : ElR (fun k => w2.heap.size ≤ k ∧ k < wr.heap.size) wr (.slice ka (keptL D n).length kc) (keptZ D n) := HKR.out.el
              refine hk4.mono fun k hk => ⟨⟨?_, by omega, by omega⟩, ho k hk.2⟩
              have h5 := HG4.out.size
              simp at h5
              omega
          have HST := hidden hst
          have HW7 := hidden (rch_width HRT.out)
          have HDB := hidden (show w.heap.size + 1 ≤ wr.heap.size by omega)
          obtain ⟨DB, hDBe⟩ : ∃ b, b = wr.heap.size := ⟨_, rfl⟩
          rw [← hDBe] at HST HDB ⊢
          clear hst hDBe HA4 HG4 HS4 HROW HBE HXw HRw HRV HAV HRN HAN HX2 HR2 HB2 HBW2 HBn HX1 HR1 HB1 HBW1 e1 hDB hbu HRE HAL HR hrk2 hbs2 hbe HX3 HR3 HB3 HROW3 HKR HKN
          obtain ⟨W, hW, hWn⟩ := HW7.out
          have HW := hidden hW
          have HWN := hidden hWn
          have hwid : W ≤ 256 := by
            have h2 := (rightD_spec HRT.out).2.1
            have := wid_le D.cls 256 256 HD.out.small
            omega
          have HBM := hidden (fun (wr : World) (hb : Below (w.heap.size + 1) w0 wr) => (HB0.out.trans (hb.mono (Nat.le_succ _)) : Below w.heap.size w wr))
          obtain ⟨rk, hrk⟩ : ∃ r, r = (keptL D n).length := ⟨_, rfl⟩
          rw [← hrk] at HST HKZL ⊢
          have HRK := hidden hrk
          have hrk9 : rk ≤ n := by rw [hrk]; exact keptL_le D n
          clear hW hWn HW7 hrk
          go_loopw [60] (fun iv wr => ∃ (k : Nat) (vn vl : Value) (us : List Value), k ≤ rk ∧ iv = .int .i64 k ∧ TrSt w0 (w.heap.size + 1) wr (w.heap.size + 1) DB D.cls D.width vn vl (.slice none 0 0) us (kpN D k) (kpL D k) [] [.slice (some ⟨NB, 0, none⟩) n n, .slice ka rk kc] [numP D n, keptZ D n]) (fun i _ => rk - (Go.RowKit.intOf i).toNat)
          case atStart => exact ⟨0, _, _, _, by omega, rfl, HST.out⟩
          case round =>
            obtain ⟨k, vn, vl, us, hk, rfl, hS⟩ := hrel
            have HS := hidden hS
            clear hS HST
            by_cases hlt : k < rk
            · obtain ⟨an2, cn2, hvn⟩ := HS.out.s.nexts.form
              subst hvn
              obtain ⟨al2, cl2, hvl2⟩ := HS.out.s.rowL.form
              subst hvl2
              have hkl : k < (keptL D D.next.length).length := by rw [← HN.out, ← HRK.out]; exact hlt
              have HNX := hidden (kpN_more hkl)
              have HLX := hidden (kpL_more hkl)
              have hjn := keptL_lt hkl
              obtain ⟨j, hj⟩ : ∃ j, j = (keptL D D.next.length).getD k 0 := ⟨_, rfl⟩
              rw [← hj] at HNX HLX hjn
              rw [← HN.out] at hjn
              have HKL2 := hidden (kpN_len (D := D) k)
              have hXq := HX.out.under HS.out.s.below (by omega)
              have e2 := hXq.next
              have hbm := HBM.out _ HS.out.s.below
              obtain ⟨b, off, b2, off2, c', rfl, q1, hbl, hb2l, q2⟩ := HD.out.row HRT.out HW.out hbm j (by rw [← HN.out]; exact hjn)
              obtain ⟨ka', kcp, hke0, _, _, _, hk4⟩ := HS.out.x.get 1 (by simp)
              have hke : Value.slice ka rk kc = .slice ka' (keptZ D n).length kcp := hke0
              simp only [Value.slice.injEq] at hke
              obtain ⟨rfl, hke2, rfl⟩ := hke
              clear hke0 hke2
              obtain ⟨kb, ko, rfl, _, hkc⟩ := hk4 (show 0 < (keptZ D n).length by rw [HKZL.out]; omega)
              have k1 := hkc k (show k < (keptZ D n).length by rw [HKZL.out]; exact hlt)
              rw [show ([numP D n, keptZ D n] : List (List Int)).getD 1 [] = keptZ D n from rfl, show (keptZ D n).getD k 0 = (j : Int) from by
                rw [hj, ← HN.out]
                unfold keptZ
                exact getD_map _ (by rw [← HRK.out]; exact hlt) 0 0] at k1
              have hnum := fun (y : Nat) (hy : y < n) => (HS.out.x.get 0 (by simp)).cellN (i := y) (by rw [show [numP D n, keptZ D n].getD 0 [] = numP D n from rfl, HNL.out]; exact hy)
              have hNBl : NB < wr.heap.size := (hnum j hjn).1.1
              obtain ⟨l, hl⟩ : ∃ l, l = D.next.getD j [] := ⟨_, rfl⟩
              have hlr := (rightD_spec HRT.out).2.2.2.2 j (by rw [← HN.out]; exact hjn)
              rw [← hl] at hlr HNX
              have hlW : l.length = W := by have := hlr.1; have := HW.out; omega
              have hlx : ∀ c, c < W → toD D j c = l.getD c 0 := fun c _ => by unfold toD; rw [hl]
              have hlm : ∀ x ∈ l, -1 ≤ x ∧ x < n := fun x hx => by have := hlr.2.2 x hx; have := HN.out; omega
              have HMAP := hidden (show l.map (rnX (numP D n)) = l.map (renD D) from List.map_congr_left fun x hx => by
                have := hlm x hx
                rw [HN.out]
                exact ren_rn this.1 (by rw [← HN.out]; exact this.2))
              have HREN := hidden (fun (W' : World) (hb : Below wr.heap.size wr W') => renumbered_calls (w := W') (c' := c') (nc := n) (n := n) (nm := numP D n) hlW (by omega) (Nat.lt_of_lt_of_le hb2l (Nat.le_trans hbm.size hb.size)) (fun c hc => (hb.cell (p := ⟨b2, off2 + c, none⟩) (Nat.lt_of_lt_of_le hb2l hbm.size)).trans (by rw [← hlx c hc]; exact q2 c hc)) (Nat.lt_of_lt_of_le hNBl hb.size) (fun y hy => (hb.cell (p := ⟨NB, y, none⟩) hNBl).trans (hnum y hy).2) (fun c hc => hlm _ (getD_mem (by omega))))
              have HBL := hidden hbl
              have HBMr := hidden hbm
              have hjz : (j : Int) < (n : Int) := by omega
              have d2 := HS.out.s.d.next
              clear hkc hnum hl hlr hlW hlx hlm hj hk4 q2 hkl
              have HSS := hidden (fun (W' : World) (hb : Below wr.heap.size wr W') (hd : W'.cell? ⟨DB, 257, none⟩ = some (.slice an2 (kpN D k).length cn2)) => (show W'.cell? ⟨DB, 257, none⟩ = some (.slice an2 (kpN D k).length cn2) ∧ W'.cell? ⟨w.heap.size, 257, none⟩ = some (.slice (some ⟨b, off, none⟩) n cn) ∧ W'.cell? ⟨b, off + j, none⟩ = some (.slice (some ⟨b2, off2, none⟩) W c') from
                ⟨hd, (hXq.below hb).next, (hb.cell (p := ⟨b, off + j, none⟩) (Nat.lt_of_lt_of_le hbl hbm.size)).trans q1⟩))
              have HI := hidden infoZZ
              have HLEN := hidden (show (kpN D k).length + 1 ≤ 1000000 by have := HKL2.out; omega)
              have HMEM := hidden (HS.out.s.off (r := ⟨24, 1, .slice an2 (kpN D k).length cn2, (kpN D k).length, us⟩) (by simp [rows4]))
              have HXQ := hidden hXq
              have HQ1 := hidden q1
              clear hXq e2 q1 d2 hbm
              go_wp2_with fail
              clear k1
              obtain ⟨nk, hnk⟩ : ∃ m, m = (kpN D k).length := ⟨_, rfl⟩
              rw [← hnk] at HSS HLEN HMEM
              have HNK := hidden hnk
              clear hnk
              have hS0 := HSS.out _ ((Below.refl _ _).drew) (by rw [HNK.out]; exact HS.out.s.d.next)
              go_region_law
                (first
                  | (go_simp; refine (HREN.out _ ((Below.refl _ _).drew)).mono ?_; rintro e wA ⟨v, rfl, hrz, hbA⟩;
                     have hb3 : Below wr.heap.size wr wA := ⟨hbA.os, hbA.tape, hbA.output, hbA.size, hbA.block⟩;
                     have HSA := hidden (HS.out.kept hb3);
                     rw [HMAP.out] at hrz;
                     have HEA := hidden (HS.out.fresh hrz);
                     obtain ⟨va, vc, hv⟩ := hrz.form;
                     subst hv;
                     have hSA := HSS.out wA hb3 (by rw [HNK.out]; exact HSA.out.s.d.next);
                     rw [List.length_map] at hrz HEA ⊢;
                     have halr : Below wA.heap.size wA (wA.alloc (.cells #[.slice va l.length vc] 24)) := (Below.refl _ _).alloc (Nat.le_refl _) _;
                     have HDa := hidden (HSA.out.kept halr);
                     have HEa := hidden (HEA.out.mono (StayR.below halr));
                     have hown9 : ∀ q, (Value.slice an2 nk cn2).ownBlock = some q → w.heap.size + 1 ≤ q := (fun q hq => (World.ownsRow.lt HDa.out.s.rowN q (by rw [← HNK.out]; exact hq)).1);
                     have hSa := HSS.out _ (below_then hb3 hb3.size halr) (by rw [HNK.out]; exact HDa.out.s.d.next))
                  | (refine step_app (v := .slice an2 nk cn2) rfl _ _ rfl HI.out Tryz.underlying23 rfl (by decide) (by decide) rfl (by rw [HNK.out]; exact HDa.out.s.rowN) rfl (Src.one wA (.slice va l.length vc) 24 _ rfl) (by simp) (by simp [Value.oneCell']) HLEN.out HDa.out.s.sz ?_;
                     intro v13 w13 hA;
                     have HA13 := hidden hA;
                     have hS13 : w13.cell? ⟨DB, 257, none⟩ = some (.slice an2 nk cn2) ∧ w13.cell? ⟨w.heap.size, 257, none⟩ = some (.slice (some ⟨b, off, none⟩) n cn) ∧ w13.cell? ⟨b, off + j, none⟩ = some (.slice (some ⟨b2, off2, none⟩) W c') := ⟨by rw [HNK.out]; exact (HDa.out.s.d.grown hA.grown HMEM.out.2).next, hA.grown.cell hSa.2.1 (fun e => by have := hown9 _ e.symm; simp at this; omega), hA.grown.cell hSa.2.2 (fun e => by have := hown9 _ e.symm; have := HBL.out; simp at *; omega)⟩;
                     have hf9 := (HDa.out.s.d.grown hA.grown HMEM.out.2).frozen 257;
                     obtain ⟨a13, c13, hv13⟩ := row_slice14 hA.own;
                     subst hv13))
              all_goals clear hS0 hSA hSa hS13 hf9 HREN HMAP HSS HQ1 HXQ hb3 halr hown9 hbA hrz
              all_goals (have hnk := HNK.out; subst hnk)
              all_goals have HSN := hidden (TrSt.putN (t := l.map (renD D)) HDa.out HEa.out HA13.out)
              all_goals rw [← HNX.out] at HSN
              all_goals clear HDa HEa HA13 HSA HEA HMEM
              all_goals generalize w13.setCell ⟨DB, 257, none⟩ (.slice a13 ((kpN D k).length + 1) c13) = w14 at *
              all_goals clear hA
              all_goals
                have HSd := hidden (HSN.out.kept (w' := w14.drew) (Below.refl _ _).drew)
                have hXd := HX.out.under HSd.out.s.below (by omega)
                have m3 := hXd.label
                obtain ⟨b9, o9, hal9, _, q9⟩ := HD.out.label.atZ (HBM.out _ HSd.out.s.below) j (by have := (rightD_spec HRT.out).2.2.2.1; have := HN.out; omega)
                subst hal9
                have hil : (j : Int) < (ln : Int) := by
                  have := (rightD_spec HRT.out).2.2.2.1
                  have := HN.out
                  have := HLN.out
                  omega
                have l4 := HSd.out.s.d.label
                obtain ⟨lx, hlx⟩ : ∃ x, x = D.label.getD j 0 := ⟨_, rfl⟩
                rw [← hlx] at q9 HLX
                have HS6 := hidden (HSd.out.kept (w' := w14.drew.alloc (.cells #[.int .i64 lx] 3)) ((Below.refl _ _).alloc (Nat.le_refl _) _))
                have l6 := HS6.out.s.d.label
                have l7 := (HSN.out.kept (w' := w14.alloc (.cells #[.int .i64 lx] 3)) ((Below.refl _ _).alloc (Nat.le_refl _) _)).s.d.label
                have HI2 := hidden infoInt
                have HB7 := hidden HS6.out.s.sz
                have HRO := hidden HS6.out.s.rowL
                have HOFF := hidden (HS6.out.s.off (r := ⟨3, 1, .slice al2 (kpL D k).length cl2, (kpL D k).length, (kpL D k).map (Value.int .i64)⟩) (by simp [rows4]))
                have HLEN2 := hidden (show (kpL D k).length + 1 ≤ 1000000 by have := HKL2.out; omega)
                clear hlx hXd
                go_wp2_with fail
                go_region_law (refine step_app (v := .slice al2 (kpL D k).length cl2) rfl _ _ rfl HI2.out Tryz.underlying24 rfl (by decide) (by decide) rfl HRO.out rfl (Src.one _ (.int .i64 lx) 3 _ rfl) (by simp) (by simp [Value.oneCell']) HLEN2.out HB7.out ?_; intro v9 w9 hA9; have HA9 := hidden hA9; have HD9 := hidden (HS6.out.s.d.grown hA9.grown HOFF.out.2); have r4 := HD9.out.label; have hf9 := HD9.out.frozen 258; obtain ⟨a9, c9, hv9⟩ := row_slice14 hA9.own; subst hv9; clear hA9)
                all_goals (have HF := hidden (HS6.out.putL HA9.out))
                all_goals (rw [← HLX.out] at HF)
                all_goals clear HA9 HS6 HD9 HOFF HRO HB7 HSN HSd l4 l6 l7 m3 q9 r4 hf9 hil
                all_goals go_wp2_with fail
                all_goals go_roundw
                all_goals first
                  | (simp [Go.RowKit.intOf]; omega)
                  | exact ⟨k + 1, _, _, _, by omega, by go_num, HF.out⟩
                all_goals trace_state
            · obtain rfl : rk = k := by omega
              obtain ⟨an2, cn2, hvn⟩ := HS.out.s.nexts.form
              subst hvn
              obtain ⟨al2, cl2, hvl2⟩ := HS.out.s.rowL.form
              subst hvl2
              have HDD := hidden HS.out.s.d
              have HRR := hidden HS.out.s.r
              go_wp2_with (first
                | (refine load_dfa rfl (x := .tmp 8) rfl rfl HDD.out ?_)
                | (refine wp_load_any (x := .tmp 8) rfl rfl (run_load_dfa HDD.out) ?_)
                | (refine store_dfa rfl (x := .tmp 2) (y := .tmp 87) rfl rfl rfl HRR.out rfl rfl ?_; intro w12 hA2 hg2 hs2; have HA2 := hidden hA2; have HG2 := hidden hg2; clear hA2 hg2 hs2)
                | fail)
              refine ret_dfa1 Tryz.results15 rfl rfl HA2.out ⟨.slice an2 (kpN D rk).length cn2, .slice al2 (kpL D rk).length cl2, ?_, ?_, ?_⟩
              · rw [HL.out]; rfl
              · rw [HL.out, kX_is (k := rk) (by rw [HRK.out, HN.out])]
                exact HS.out.reads HG2.out HD.out.small
              · exact (HBM.out _ HS.out.s.below).grown HG2.out (HBM.out _ HS.out.s.below).size (by intro k hk; simp only [Option.some.injEq] at hk; omega)
end Go.Proofs.YtnjjbaodfjmiaaaGreat
