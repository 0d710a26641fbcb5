/- FaSeen, FaEachE, put together. -/
import Derived.Test.YthkboclooplpeaaGreatDoorRf30
import Derived.Test.YthkboclooplpeaaGreatDoorRf31
/- What a closure that sees ends leaves as it was; the ends as a list of steps has them. -/
namespace Go.Proofs.YthkboclooplpeaaGreatDoor
open Go.RowKit Go.Lib Go.Joins
/-- what a closure that is handed an end leaves: sets, reaches, the net, the table -/
structure Sv (w w' : World) : Prop where
  size : w.heap.size ≤ w'.heap.size
  block : ∀ (k : Nat) (cs : Array Value) (t : TypeId) (fr : Nat × Nat), w.heap[k]? = some (.cells cs t fr) → (t = 33 ∨ t = 83 ∨ t = 110) → w'.heap[k]? = w.heap[k]?
  tab : Tab w → Tab w'
theorem Sv.at {w w' : World} {k : Nat} {cs : Array Value} {t : TypeId} {fr : Nat × Nat} (h : Sv w w') (hk : w.heap[k]? = some (.cells cs t fr)) (ht : t = 33 ∨ t = 83 ∨ t = 110) : w'.heap[k]? = some (.cells cs t fr) := (h.block k cs t fr hk ht).trans hk
theorem Sv.row {w w' : World} {base k n : Nat} {v : Value} {xs : List Value} (h : Sv w w') (ho : w.ownsRow base 33 k v n xs) : w'.ownsRow base 33 k v n xs := by
  refine ⟨ho.1, ?_⟩
  rcases ho.2 with h1 | ⟨g, cap, cur, e, hb, hg, r⟩
  · exact .inl h1
  · exact .inr ⟨g, cap, cur, e, hb, h.at hg (.inl rfl), r⟩
theorem Sv.net {w w' : World} {NB base : Nat} {S : List (Nat → Bool)} {E : Nat → Nat → Bool} (h : Sv w w') (hn : NetAt w NB base S E) : NetAt w' NB base S E := by
  obtain ⟨vs, vn, hv⟩ := hn
  exact ⟨vs, vn, h.at hv.obj (.inr (.inr rfl)), h.row hv.sets, h.row hv.next, hv.apart⟩
theorem Sv.of_below {w w' : World} (h : Below w.heap.size w w') : Sv w w' := ⟨h.size, fun k _ _ _ hk _ => h.block k (Array.getElem?_eq_some_iff.1 hk).1, fun ht => ht.below h⟩
theorem byN_drop (s : ByteArray) (p : Nat) (h : p < s.size) : (byN s).drop p = s[p].toNat :: (byN s).drop (p + 1) := by
  have hl : p < (byN s).length := by rw [byN_len]; exact h
  rw [List.drop_eq_getElem_cons hl]
  congr 1
  have := byN_at s p h
  rw [List.getD_eq_getElem?_getD, List.getElem?_eq_getElem hl] at this
  exact this
/-- the ends that a list of steps has from a place on -/
def endsF (L : List Stp) (s : ByteArray) (a : Nat) : List Nat := if (measV L).2 = 0 then endsE (treeE L) (byN s) a else []
/-- the places that are open, bound to sets in memory -/
def aftF (S : List (Nat → Bool)) (E : Nat → Nat → Bool) (O : Nat → Bool) (c : Nat) : Nat → Bool := aftK S E (elems O) c (elems O).length
def endF (S : List (Nat → Bool)) (Lp : Nat → Bool) (O : Nat → Bool) (c : Nat) : Bool := endK S Lp (elems O) c (elems O).length
theorem gS_at (e : Ex) {p c : Nat} (hc : c < 256) : gS e 0 p c = (setsE e).getD p fNone c := by
  rw [gS_sets]
  simp [hc]
theorem aftF_eq (e : Ex) (O : Nat → Bool) {c : Nat} (hc : c < 256) : aftF (setsE e) (gE e 0) O c = after (gS e 0) (gE e 0) O c := by
  funext q
  unfold aftF aftK after elems
  rw [List.take_of_length_le (Nat.le_refl _), List.any_filter]
  congr 1
  funext p
  rw [gS_at e hc]
theorem endF_eq (e : Ex) (O : Nat → Bool) {c : Nat} (hc : c < 256) : endF (setsE e) (gL e 0) O c = ended (gS e 0) (gL e 0) O c := by
  unfold endF endK ended elems
  rw [List.take_of_length_le (Nat.le_refl _), List.any_filter]
  congr 1
  funext p
  rw [gS_at e hc]
theorem endsF_eq {L : List Stp} {s : ByteArray} {a : Nat} (hz : (measV L).2 = 0) (_ : ∀ s ∈ L, s.wide) : endsF L s a = (if nul (treeE L) = true then [a] else []) ++ scan (gS (treeE L) 0) (gE (treeE L) 0) (gL (treeE L) 0) (gF (treeE L) 0) ((byN s).drop a) a := by
  unfold endsF
  rw [if_pos hz]
  rfl
end Go.Proofs.YthkboclooplpeaaGreatDoor

/- eachEnd with the closure of Ends: it sees each end, the least one first. -/
namespace Go.Proofs.YthkboclooplpeaaGreatDoor
open Go.RowKit Go.Lib Go.Joins
attribute [local go_sem] evalR_tmp evalR_const evalR_global evalR_func
set_option maxHeartbeats 8000000 in
set_option maxRecDepth 100000 in
theorem eachE_calls {C : Nat → Prop} {v0 : Value} {L : List Stp} {w : World} {s : ByteArray} {a : Nat} (c1 : Nat) (J : List Nat → World → Prop) (h : SlX C w v0 L) (hC : ∀ b, C b → b < w.heap.size) (hwd : ∀ s ∈ L, s.wide) (ht : Tab w) (ha : a ≤ s.size) (hs : s.size ≤ 1000000)
    (hJ0 : J [] w) (hJb : ∀ (D : List Nat) (w w' : World), J D w → Below w.heap.size w w' → J D w') (hJs : ∀ (D : List Nat) (wx : World) (b : Nat) (cs : Array Value) (t : TypeId) (fr : Nat × Nat) (w' : World), J D wx → wx.heap[b]? = some (.cells cs t fr) → (t = 33 ∨ t = 83) → w.heap.size ≤ b → wx.grownBy w' (some b) → J D w')
    (hJc : ∀ D w (k : Nat), J D w → k ≤ 2000000 → D.length < (endsF L s a).length → Calls Tryz.prog 34 #[.int .i64 (k : Int), .pointer (some ⟨c1, 0, none⟩)] w fun e w' => e = .returned (.tuple #[]) ∧ J (D ++ [k]) w' ∧ Sv w w') :
    Calls Tryz.prog 32 #[v0, .string s, .int .i64 (a : Int), .func (.func 34) #[] #[.pointer (some ⟨c1, 0, none⟩)]] w fun e w' => e = .returned (.tuple #[]) ∧ J (endsF L s a) w' := by
  have HNN := hidden (newNet_calls h hC hwd ht)
  have HPL := hidden (fun hz => expr_plc (L := L) hz hwd)
  have HWN := hidden (fun hz => (show (rchF L).null = nul (treeE L) ∧ (rchF L).first = gF (treeE L) 0 ∧ (rchF L).last = gL (treeE L) 0 from by unfold rchF; rw [if_pos hz]; exact ⟨rfl, rfl, rfl⟩))
  have HWF := hidden (fun hz p (hp : (rchF L).first p = true) => (show p < plc (treeE L) from by rw [(HWN.out hz).2.1] at hp; have := gF_in _ _ _ hp; omega))
  have HJ0 := hidden hJ0
  have HJb := hidden hJb
  have HJs := hidden hJs
  have HJc := hidden hJc
  have HTB := hidden ht
  have HTLT := hidden (cell_lt (ht 0 (by decide)))
  have HW1S := hidden (fun (w1 : World) (hb : Below w.heap.size w w1) => hb.size)
  have HEF := hidden (fun hz => endsF_eq (L := L) (s := s) (a := a) hz hwd)
  obtain ⟨av, cv, rfl, _⟩ := h
  generalize hef : endsF L s a = RS at *
  have hokv : ∀ b, decide ((measV L).2 = 0) = b → b = true → (measV L).2 = 0 := fun b h1 h2 => by rw [h2] at h1; exact of_decide_eq_true h1
  have hnov : decide ((measV L).2 = 0) = false → RS = [] := fun h1 => by rw [← hef]; unfold endsF; rw [if_neg (of_decide_eq_false h1)]
  generalize decide ((measV L).2 = 0) = ok at *
  have HOK := hidden (hokv ok rfl)
  have HNO := hidden hnov
  generalize rchF L = wh at *
  clear hJ0 hJb hJs hJc ht hC hwd hef hokv hnov
  cases hok : ok with
  | false =>
    rw [hok] at HNN HNO
    have HR := hidden (HNO.out rfl)
    clear hok
    go_enter Tryz.func32, Tryz.ntmps32
    go_wp2_with fail
    refine HNN.out.mono ?_
    rintro e w1 ⟨rfl, _, hb1⟩
    have HJ1 := hidden (HJb.out _ _ _ (HJb.out _ _ _ HJ0.out hb1) ((Below.refl _ _).alloc (Nat.le_refl _) (.cells #[.bool wh.null, .int .u64 (word (wh.first) 0), .int .u64 (word (wh.first) 1), .int .u64 (word (wh.first) 2), .int .u64 (word (wh.first) 3), .int .u64 (word (wh.last) 0), .int .u64 (word (wh.last) 1), .int .u64 (word (wh.last) 2), .int .u64 (word (wh.last) 3)] 83)))
    clear hb1
    unfold rchV
    go_wp2
    refine bodyPost_ret (results_none rfl _ _ _) rfl ?_
    exact ⟨rfl, by rw [HR.out]; exact HJ1.out⟩
  | true =>
    rw [hok] at HNN
    have hz := HOK.out hok
    clear hok
    have HEQ := hidden (HEF.out hz)
    generalize hT : treeE L = T at *
    have hpl : plc T ≤ 256 := HPL.out hz
    obtain ⟨nl, fi, la⟩ := wh
    have hnul : nl = nul T := (HWN.out hz).1
    have hfi : fi = gF T 0 := (HWN.out hz).2.1
    have hla : la = gL T 0 := (HWN.out hz).2.2
    obtain ⟨D0, hDD⟩ : ∃ D0, D0 = (if nl = true then [a] else ([] : List Nat)) := ⟨_, rfl⟩
    have HD0 := hidden (show (if nul T = true then [a] else []) = D0 from by rw [hDD, hnul])
    have HDJ := hidden (fun w' (h : J (if nl = true then [a] else []) w') => (show J D0 w' from by rw [hDD]; exact h))
    clear hDD
    have HFI := hidden hfi
    have HLA := hidden hla
    have HL0 := hidden (fun (h : nl = true) => (show ([] : List Nat).length < RS.length from by rw [HEQ.out, ← hnul, if_pos h]; simp))
    have HNW := hidden (fun w1 (h : (measV L).2 = 0 → NetAt w1 (w.heap.size + 1) w.heap.size (setsE T) (gE T 0)) => h hz)
    have hq := fun w f => eq_none w f
    simp only [none_sameL] at hq
    have HQ := hidden hq
    clear hq
    unfold rchV at HNN
    simp only at HNN
    clear hnul hfi hla HWN HWF HPL hz HEF HNO HOK
    cases nl
    case' true =>
      go_enter Tryz.func32, Tryz.ntmps32
      go_wp2_with fail
      refine HNN.out.mono ?_
      rintro e w1 ⟨rfl, hN1, hb1⟩
      have HWS := hidden hb1.size
      have hb1' := hb1.alloc (by have := hb1.size; omega) (.cells #[.bool true, .int .u64 (word (fi) 0), .int .u64 (word (fi) 1), .int .u64 (word (fi) 2), .int .u64 (word (fi) 3), .int .u64 (word (la) 0), .int .u64 (word (la) 1), .int .u64 (word (la) 2), .int .u64 (word (la) 3)] 83)
      have HJ1 := hidden (HJb.out _ _ _ HJ0.out hb1')
      have HN1 := hidden ((HNW.out w1 hN1).below ((Below.refl _ _).alloc (Nat.le_refl _) (.cells #[.bool true, .int .u64 (word (fi) 0), .int .u64 (word (fi) 1), .int .u64 (word (fi) 2), .int .u64 (word (fi) 3), .int .u64 (word (la) 0), .int .u64 (word (la) 1), .int .u64 (word (la) 2), .int .u64 (word (la) 3)] 83)))
      have HT1 := hidden (HTB.out.below hb1')
      have HW1 := hidden (heap_alloc_new w1 (.cells #[.bool true, .int .u64 (word (fi) 0), .int .u64 (word (fi) 1), .int .u64 (word (fi) 2), .int .u64 (word (fi) 3), .int .u64 (word (la) 0), .int .u64 (word (la) 1), .int .u64 (word (la) 2), .int .u64 (word (la) 3)] 83))
      clear hN1 hb1 hb1'
      go_wp2_with fail
      refine (HJc.out [] _ a HJ1.out (by omega) (HL0.out (by trivial))).mono ?_
      rintro e w2 ⟨rfl, hJ2, hS2⟩
      have hr2 := hS2.at HW1.out (.inr (.inl rfl))
      have hn2 := hS2.net HN1.out
      have ht2 := hS2.tab HT1.out
      have hJ2' : J D0 w2 := HDJ.out w2 (by simpa using hJ2)
      have hb9 : w1.heap.size < w2.heap.size := (Array.getElem?_eq_some_iff.1 hr2).1
      clear hJ2 hS2
      obtain ⟨z0, z1, z2, z3, z4, z5, z6, z7, z8⟩ := (show RchAt w2 w1.heap.size ⟨true, fi, la⟩ from hr2).cells
      simp only at z0 z1 z2 z3 z4 z5 z6 z7 z8
      have hr3 : ∃ nv, RchAt w2 w1.heap.size ⟨nv, fi, la⟩ := ⟨true, hr2⟩
      clear hr2
      obtain ⟨b11, h11⟩ : ∃ b, w2.heap.size = b := ⟨_, rfl⟩
      have H11 := hidden h11
      have HO := hidden (show SetAt (w2.alloc (.cells #[.int .u64 (word (fi) 0), .int .u64 (word (fi) 1), .int .u64 (word (fi) 2), .int .u64 (word (fi) 3)] 33)) b11 fi from by rw [← h11]; exact heap_alloc_new w2 _)
      have HLT := hidden (show w1.heap.size < b11 from by omega)
      clear h11
    case' false =>
      go_enter Tryz.func32, Tryz.ntmps32
      go_wp2_with fail
      refine HNN.out.mono ?_
      rintro e w1 ⟨rfl, hN1, hb1⟩
      have HWS := hidden hb1.size
      have hb1' := hb1.alloc (by have := hb1.size; omega) (.cells #[.bool false, .int .u64 (word (fi) 0), .int .u64 (word (fi) 1), .int .u64 (word (fi) 2), .int .u64 (word (fi) 3), .int .u64 (word (la) 0), .int .u64 (word (la) 1), .int .u64 (word (la) 2), .int .u64 (word (la) 3)] 83)
      have hJ2' : J D0 (w1.alloc (.cells #[.bool false, .int .u64 (word (fi) 0), .int .u64 (word (fi) 1), .int .u64 (word (fi) 2), .int .u64 (word (fi) 3), .int .u64 (word (la) 0), .int .u64 (word (la) 1), .int .u64 (word (la) 2), .int .u64 (word (la) 3)] 83)) := HDJ.out _ (by simpa using HJb.out _ _ _ HJ0.out hb1')
      have hn2 := ((HNW.out w1 hN1).below ((Below.refl _ _).alloc (Nat.le_refl _) (.cells #[.bool false, .int .u64 (word (fi) 0), .int .u64 (word (fi) 1), .int .u64 (word (fi) 2), .int .u64 (word (fi) 3), .int .u64 (word (la) 0), .int .u64 (word (la) 1), .int .u64 (word (la) 2), .int .u64 (word (la) 3)] 83)))
      have ht2 := HTB.out.below hb1'
      have hr2 := heap_alloc_new w1 (.cells #[.bool false, .int .u64 (word (fi) 0), .int .u64 (word (fi) 1), .int .u64 (word (fi) 2), .int .u64 (word (fi) 3), .int .u64 (word (la) 0), .int .u64 (word (la) 1), .int .u64 (word (la) 2), .int .u64 (word (la) 3)] 83)
      have hb9 : w1.heap.size < (w1.alloc (.cells #[.bool false, .int .u64 (word (fi) 0), .int .u64 (word (fi) 1), .int .u64 (word (fi) 2), .int .u64 (word (fi) 3), .int .u64 (word (la) 0), .int .u64 (word (la) 1), .int .u64 (word (la) 2), .int .u64 (word (la) 3)] 83)).heap.size := by simp
      clear hN1 hb1 hb1'
      have hr3 : ∃ nv, RchAt (w1.alloc (.cells #[.bool false, .int .u64 (word (fi) 0), .int .u64 (word (fi) 1), .int .u64 (word (fi) 2), .int .u64 (word (fi) 3), .int .u64 (word (la) 0), .int .u64 (word (la) 1), .int .u64 (word (la) 2), .int .u64 (word (la) 3)] 83)) w1.heap.size ⟨nv, fi, la⟩ := ⟨false, hr2⟩
      clear hr2
      obtain ⟨b11, h11⟩ : ∃ b, w1.heap.size + 1 = b := ⟨_, rfl⟩
      have H11 := hidden h11
      have HO := hidden (show SetAt ((w1.alloc (.cells #[.bool false, .int .u64 (word (fi) 0), .int .u64 (word (fi) 1), .int .u64 (word (fi) 2), .int .u64 (word (fi) 3), .int .u64 (word (la) 0), .int .u64 (word (la) 1), .int .u64 (word (la) 2), .int .u64 (word (la) 3)] 83)).alloc (.cells #[.int .u64 (word (fi) 0), .int .u64 (word (fi) 1), .int .u64 (word (fi) 2), .int .u64 (word (fi) 3)] 33)) b11 fi from by rw [← h11]; exact heap_alloc2_new w1 _ _)
      have HLT := hidden (show w1.heap.size < b11 from by omega)
      clear h11
    all_goals
      obtain ⟨nv, hr2⟩ := hr3
      have HR2 := hidden hr2
      obtain ⟨vs, vn, hv2⟩ := hn2
      have HV2 := hidden hv2
      have HNB := hidden (show vs.ownBlock ≠ some b11 ∧ vn.ownBlock ≠ some b11 ∧ w.heap.size + 1 ≠ b11 from ⟨own_lt hv2.sets (by first | exact Nat.le_of_eq H11.out | (have := H11.out; simp; omega)), own_lt hv2.next (by first | exact Nat.le_of_eq H11.out | (have := H11.out; simp; omega)), by have h1 := hv2.lt; have h2 := H11.out; first | omega | (simp at h1; omega)⟩)
      have HT2 := hidden ht2
      have HJ2 := hidden hJ2'
      have HE0 := hidden (show D0 ++ scan (gS T 0) (gE T 0) (gL T 0) (gF T 0) ((byN s).drop a) a = RS by rw [HEQ.out, HD0.out])
      clear hr2 hv2 ht2 hJ2'
      have HAL := hidden (fun (o : Obj) => And.intro (HR2.out.below ((Below.refl _ _).alloc (Nat.le_refl _) o)) (And.intro (HV2.out.below ((Below.refl _ _).alloc (Nat.le_refl _) o)) (And.intro (HT2.out.below ((Below.refl _ _).alloc (Nat.le_refl _) o)) (HJb.out _ _ _ HJ2.out ((Below.refl _ _).alloc (Nat.le_refl _) o)))))
      have HGF := hidden (show ∀ q, fi q = true → q < plc T from fun q hq => by rw [HFI.out] at hq; have := gF_in _ _ _ hq; omega)
      rw [← HFI.out] at HE0
      have HTL := hidden (fun p (hp : p < s.size) => byN_drop s p hp)
      go_wp2
      simp only [H11.out]
      go_loopw [13] (fun i wr => ∃ (p : Nat) (D : List Nat) (O : Nat → Bool), p ≤ s.size ∧ i = .int .i64 p ∧ RchAt wr w1.heap.size ⟨nv, fi, la⟩ ∧ SetAt wr b11 O ∧ NetV wr (w.heap.size + 1) w.heap.size vs vn (setsE T).length ((setsE T).flatMap netC) (((List.range (setsE T).length).map (gE T 0)).flatMap netC) ∧ Tab wr ∧ J D wr ∧ D ++ scan (gS T 0) (gE T 0) (gL T 0) O ((byN s).drop p) p = RS ∧ (∀ q, O q = true → q < plc T)) (fun i _ => s.size - (intOf i).toNat)
      case atStart =>
        obtain ⟨k1, k2, k3, k4⟩ := HAL.out (.cells #[.int .u64 (word (fi) 0), .int .u64 (word (fi) 1), .int .u64 (word (fi) 2), .int .u64 (word (fi) 3)] 33)
        exact ⟨a, D0, fi, ha, rfl, k1, HO.out, k2, k3, k4, HE0.out, HGF.out⟩
      case round =>
        obtain ⟨p, D, O, hp, rfl, hr, ho, hn, ht, hj, he, hO⟩ := hrel
        have HRr := hidden hr
        have HOr := hidden ho
        have HNr := hidden hn
        have HTr := hidden ht
        have HJr := hidden hj
        have HEr := hidden he
        have HOO := hidden hO
        obtain ⟨o0, o1, o2, o3, o4, o5, o6, o7⟩ := ho.facts
        obtain ⟨r0, r1, r2, r3, r4, r5, r6, r7, r8⟩ := hr.cells
        have hqO := fun w => HQ.out w O
        clear hr ho hn ht hj he hO
        by_cases hlt : p < s.size
        · rcases Bool.eq_false_or_eq_true (noneF O) with hno | hno
          · have HNO := hidden hno
            rw [hno] at hqO
            clear hno
            go_wp2
            refine bodyPost_end (results_none rfl _ _ _) rfl ?_
            refine ⟨rfl, ?_⟩
            have h := HEr.out
            rw [HTL.out p hlt] at h
            simp only [scan] at h
            rw [if_pos HNO.out, List.append_nil] at h
            rw [← h]
            exact HJr.out
          · rw [hno] at hqO
            have HNO := hidden hno
            have HRD := hidden (read_calls (w := wr.drew) O la s[p].toNat (UInt8.toNat_lt _) ⟨vs, vn, HNr.out.below (Below.refl _ _).drew⟩ (HTr.out.below (Below.refl _ _).drew) (fun q _ hq' => by rw [setsE_len]; exact HOO.out q hq'))
            clear hno
            have hA := aftF_eq T O (c := s[p].toNat) (UInt8.toNat_lt _)
            have hB := endF_eq T O (c := s[p].toNat) (UInt8.toNat_lt _)
            unfold aftF at hA
            unfold endF at hB
            rw [← HLA.out] at hB
            have hAin : ∀ q, aftK (setsE T) (gE T 0) (elems O) s[p].toNat (elems O).length q = true → q < plc T := fun q hq => by
              simp only [aftK, List.any_eq_true, Bool.and_eq_true] at hq
              obtain ⟨r, _, _, h⟩ := hq
              have := gE_in T 0 r q h
              omega
            have hst : D ++ ((if endK (setsE T) la (elems O) s[p].toNat (elems O).length = true then [p + 1] else []) ++ scan (gS T 0) (gE T 0) (gL T 0) (aftK (setsE T) (gE T 0) (elems O) s[p].toNat (elems O).length) ((byN s).drop (p + 1)) (p + 1)) = RS := by
              have h := HEr.out
              rw [HTL.out p hlt] at h
              simp only [scan] at h
              rw [if_neg (by rw [HNO.out]; simp), ← hA] at h
              rw [hB, HLA.out]
              exact h
            obtain ⟨A, hA0⟩ : ∃ A, A = aftK (setsE T) (gE T 0) (elems O) s[p].toNat (elems O).length := ⟨_, rfl⟩
            obtain ⟨eb, hB0⟩ : ∃ eb, eb = endK (setsE T) la (elems O) s[p].toNat (elems O).length := ⟨_, rfl⟩
            rw [← hA0, ← hB0] at HRD hst
            rw [← hA0] at hAin
            have HST := hidden hst
            have HAI := hidden hAin
            clear hA hB hA0 hB0 hst hAin
            have HK := hidden (fun (w3 : World) (hb3 : Below wr.heap.size wr w3) => (show RchAt (((( w3.setCell ⟨b11, 0, none⟩ (.int .u64 (word A 0))).setCell ⟨b11, 1, none⟩ (.int .u64 (word A 1))).setCell ⟨b11, 2, none⟩ (.int .u64 (word A 2))).setCell ⟨b11, 3, none⟩ (.int .u64 (word A 3))) w1.heap.size ⟨nv, fi, la⟩ ∧ SetAt (((( w3.setCell ⟨b11, 0, none⟩ (.int .u64 (word A 0))).setCell ⟨b11, 1, none⟩ (.int .u64 (word A 1))).setCell ⟨b11, 2, none⟩ (.int .u64 (word A 2))).setCell ⟨b11, 3, none⟩ (.int .u64 (word A 3))) b11 A ∧ NetV (((( w3.setCell ⟨b11, 0, none⟩ (.int .u64 (word A 0))).setCell ⟨b11, 1, none⟩ (.int .u64 (word A 1))).setCell ⟨b11, 2, none⟩ (.int .u64 (word A 2))).setCell ⟨b11, 3, none⟩ (.int .u64 (word A 3))) (w.heap.size + 1) w.heap.size vs vn (setsE T).length ((setsE T).flatMap netC) (((List.range (setsE T).length).map (gE T 0)).flatMap netC) ∧ Tab (((( w3.setCell ⟨b11, 0, none⟩ (.int .u64 (word A 0))).setCell ⟨b11, 1, none⟩ (.int .u64 (word A 1))).setCell ⟨b11, 2, none⟩ (.int .u64 (word A 2))).setCell ⟨b11, 3, none⟩ (.int .u64 (word A 3))) ∧ J D (((( w3.setCell ⟨b11, 0, none⟩ (.int .u64 (word A 0))).setCell ⟨b11, 1, none⟩ (.int .u64 (word A 1))).setCell ⟨b11, 2, none⟩ (.int .u64 (word A 2))).setCell ⟨b11, 3, none⟩ (.int .u64 (word A 3))) from by
              have ho3 := HOr.out.below hb3
              have hg : w3.grownBy (((( w3.setCell ⟨b11, 0, none⟩ (.int .u64 (word A 0))).setCell ⟨b11, 1, none⟩ (.int .u64 (word A 1))).setCell ⟨b11, 2, none⟩ (.int .u64 (word A 2))).setCell ⟨b11, 3, none⟩ (.int .u64 (word A 3))) (some b11) := gb_sets (gb_sets (gb_sets (gb_set b11 0 _) 1 _) 2 _) 3 _
              refine ⟨(HRr.out.below hb3).other hg (by have := HLT.out; omega), ho3.stored, (HNr.out.below hb3).grown hg HNB.out.2.2 HNB.out.1 HNB.out.2.1, ?_, HJs.out _ _ _ _ _ _ _ (HJb.out _ _ _ HJr.out hb3) ho3 (.inl rfl) (by have h1 := HLT.out; have h3 := HWS.out; omega) hg⟩
              exact fun j hj => (World.cell?_of_block (hg.block _ (cell_lt ((HTr.out.below hb3) j hj)) (by have h1 := HLT.out; have h2 := HTLT.out; have h3 := HWS.out; (first | omega | (simp; omega) | (simp at h2; omega) | (simp; simp at h2; omega))))).trans ((HTr.out.below hb3) j hj)))
            go_wp2
            go_region_with (go_at_call 72; refine HRD.out.mono ?_; rintro e w3 ⟨rfl, hb3⟩; have HOR3 := hidden (HOr.out.below (show Below wr.heap.size wr w3 from ⟨hb3.os, hb3.tape, hb3.output, hb3.size, hb3.block⟩)); obtain ⟨x0, x1, x2, x3, y0, y1, y2, y3⟩ := HOR3.out.facts)
            all_goals
              have HK3 := hidden (HK.out w3 ⟨hb3.os, hb3.tape, hb3.output, hb3.size, hb3.block⟩)
              clear hb3
              cases heb : eb with
              | true =>
                have HSTT := hidden (show (D ++ [p + 1]) ++ scan (gS T 0) (gE T 0) (gL T 0) A ((byN s).drop (p + 1)) (p + 1) = RS from by have h := HST.out; rw [heb, if_pos rfl] at h; rw [List.append_assoc]; exact h)
                clear heb
                go_wp2_with fail
                refine (HJc.out D _ (p + 1) HK3.out.2.2.2.2 (by omega) (by have h := congrArg List.length HSTT.out; simp only [List.length_append, List.length_cons, List.length_nil] at h; omega)).mono ?_
                rintro e w5 ⟨rfl, hJ5, hS5⟩
                have HR5 := hidden (hS5.at HK3.out.1 (.inr (.inl rfl)))
                have HO5 := hidden (hS5.at HK3.out.2.1 (.inl rfl))
                have HV5 := hidden (show NetV w5 (w.heap.size + 1) w.heap.size vs vn (setsE T).length ((setsE T).flatMap netC) (((List.range (setsE T).length).map (gE T 0)).flatMap netC) from ⟨hS5.at HK3.out.2.2.1.obj (.inr (.inr rfl)), hS5.row HK3.out.2.2.1.sets, hS5.row HK3.out.2.2.1.next, HK3.out.2.2.1.apart⟩)
                have HT5 := hidden (hS5.tab HK3.out.2.2.2.1)
                have HJ5 := hidden hJ5
                clear hJ5 hS5
                go_wp2
                have hlt' := hlt
                go_roundw
                case rel => exact ⟨p + 1, D ++ [p + 1], A, by omega, by go_num, HR5.out, HO5.out, HV5.out, HT5.out, HJ5.out, HSTT.out, HAI.out⟩
                case measure => simp [intOf]; omega
              | false =>
                have HSTT := hidden (show D ++ scan (gS T 0) (gE T 0) (gL T 0) A ((byN s).drop (p + 1)) (p + 1) = RS from by have h := HST.out; rw [heb, if_neg (by simp), List.nil_append] at h; exact h)
                clear heb
                go_wp2
                have hlt' := hlt
                go_roundw
                case rel => exact ⟨p + 1, D, A, by omega, by go_num, HK3.out.1, HK3.out.2.1, HK3.out.2.2.1, HK3.out.2.2.2.1, HK3.out.2.2.2.2, HSTT.out, HAI.out⟩
                case measure => simp [intOf]; omega
        · obtain rfl : p = s.size := by omega
          go_wp2
          refine bodyPost_end (results_none rfl _ _ _) rfl ?_
          refine ⟨rfl, ?_⟩
          have h := HEr.out
          rw [List.drop_eq_nil_of_le (by rw [byN_len]; omega)] at h
          simp only [scan, List.append_nil] at h
          rw [← h]
          exact HJr.out
end Go.Proofs.YthkboclooplpeaaGreatDoor
