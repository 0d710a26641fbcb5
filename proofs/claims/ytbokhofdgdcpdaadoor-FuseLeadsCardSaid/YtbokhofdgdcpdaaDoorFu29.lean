/- FuJoin, FuRightN, FuStep, put together. -/
import Derived.Test.YtbokhofdgdcpdaaDoorFu28
import Derived.Test.YtbokhofdgdcpdaaDoorFu27
import Derived.Laws.MakeOwn
import Derived.Deep.OwnRows
import Derived.Lib.SmallJoins
/- Contract of joined: what is in any of some lists. -/
namespace Go.Proofs.YtbokhofdgdcpdaaDoor
open Go.RowKit Go.Lib Go.Joins
def anyB (F : List (List Int)) (p : Nat) : Bool := F.any fun l => decide ((p : Int) ∈ l)
theorem anyB_more (F : List (List Int)) (k : Nat) (hk : k < F.length) (p : Nat) : anyB (F.take (k + 1)) p = (anyB (F.take k) p || decide ((p : Int) ∈ F.getD k [])) := by
  unfold anyB
  rw [List.take_succ_eq_append_getElem hk, List.any_append, List.getD_eq_getElem?_getD, List.getElem?_eq_getElem hk]
  simp
theorem take_mem (l : List Int) (j : Nat) (hj : j < l.length) (x : Int) : x ∈ l.take (j + 1) ↔ x ∈ l.take j ∨ x = l.getD j 0 := by
  rw [List.take_succ_eq_append_getElem hj, List.mem_append, List.mem_singleton, List.getD_eq_getElem?_getD, List.getElem?_eq_getElem hj]
  rfl
theorem infoBoolJ : (Tryd.prog.info? 4).map (fun i => (i.zero, i.size, i.bytes)) = some (some (.bool false), 1, 1) := by kernel_rfl
set_option maxHeartbeats 8000000 in
set_option maxRecDepth 100000 in
theorem joined_calls {w : World} {v : Value} {F : List (List Int)} {n : Nat} (h : RdZZ w.heap.size w v F) (hn : n ≤ 100000) : Calls Tryd.prog 71 #[.int .i64 n, v] w (RetZ w (spI (hits (anyB F) n))) := by
  obtain ⟨i1, hj, hy0, hy1, hy2⟩ := info_parts infoBoolJ
  have hmk : ∀ W, (Instr.makeSlice 45 (.int .i64 ((n : Nat) : Int)) (.int .i64 ((n : Nat) : Int))).run Tryd.prog W = .ok (.slice (some ⟨W.heap.size, 0, none⟩) n n) (W.alloc (.cells (madeCells #[Value.bool false] n) 4)) := fun W => by
    have := run_make (P := Tryd.prog) W 45 4 i1 _ Tryd.underlying45 hj hy0 .i64 .i64 (n : Int) (n : Int) (by omega) (by omega) (by rw [hy2]; omega) (by omega)
    simpa [hy1, Value.cells] using this
  have HRI := hidden (World.rowIs_made w (.bool false) n 4)
  have HBA := hidden ((Below.refl w.heap.size w).alloc (Nat.le_refl _) (.cells (madeCells #[Value.bool false] n) 4))
  have HSZ := hidden (show (w.alloc (.cells (madeCells #[Value.bool false] n) 4)).heap.size = w.heap.size + 1 by simp)
  obtain ⟨cur, hcur⟩ : ∃ cur, cur = madeCells #[Value.bool false] n := ⟨_, rfl⟩
  simp only [← hcur] at hmk HRI HBA HSZ
  obtain ⟨a, c, rfl⟩ := h.form
  have hFb : F.length ≤ 9223372036854775807 := by
    obtain ⟨_, _, e, h1, h2, _⟩ := h
    unfold maxLen at h2
    omega
  have HAT := hidden (fun W (hb : Below w.heap.size w W) i (hi : i < F.length) => h.at hb i hi)
  have HAM := hidden (fun k (hk : k < F.length) => anyB_more F k hk)
  have HTL := hidden (show F.take F.length = F from List.take_length)
  obtain ⟨m, hm⟩ : ∃ m, m = F.length := ⟨_, rfl⟩
  rw [← hm] at HAT HAM HTL hFb ⊢
  obtain ⟨g, hg⟩ : ∃ g, g = w.heap.size := ⟨_, rfl⟩
  have HG := hidden hg
  have HWS := hidden (show ∀ W, Below w.heap.size w W → g ≤ W.heap.size from fun W hb => by rw [hg]; exact hb.size)
  clear h hm hcur hg
  go_enter Tryd.func71, Tryd.ntmps71
  go_wp2
  clear hmk
  go_loopw [16] (fun i wr => ∃ k : Nat, k ≤ m ∧ i = .int .i64 k ∧ (wr.rowIs w.heap.size 4 n fun p => .bool (anyB (F.take k) p)) ∧ Below w.heap.size w wr) (fun i _ => m - (intOf i).toNat)
  case atStart => exact ⟨0, by omega, rfl, HRI.out, HBA.out⟩
  case round =>
    clear HRI HBA
    obtain ⟨k, hk, rfl, hri, hb⟩ := hrel
    obtain ⟨wo, rfl⟩ : ∃ wo, wo = wr := ⟨wr, rfl⟩
    have HR := hidden hri
    have HB := hidden hb
    clear hri hb
    by_cases hlt : k < m
    · obtain ⟨b, off, a', c', rfl, hbw, d0, hrz⟩ := HAT.out wo HB.out k hlt
      have HZ := hidden hrz
      have HZ0 := hidden (show RdZ w.heap.size w (.slice a' (F.getD k []).length c') (F.getD k []) from by
        obtain ⟨b0, off0, a0, c0, e1, e2, e3, e4⟩ := HAT.out w (Below.refl _ _) k hlt
        simp only [Option.some.injEq, Addr.mk.injEq, and_true] at e1
        obtain ⟨rfl, rfl⟩ := e1
        have e5 := (HB.out.cell (p := ⟨b, off + k, none⟩) e2).trans e3
        rw [d0] at e5
        simp only [Option.some.injEq, Value.slice.injEq] at e5
        obtain ⟨rfl, _, rfl⟩ := e5
        exact e4)
      have HKM := hidden (HAM.out k hlt)
      have hlt' := hlt
      have hdk : decide ((k : Int) < (m : Int)) = true := decide_eq_true (by omega)
      have hdk2 : decide (k < m) = true := decide_eq_true hlt
      have hlb := hrz.bound.2
      obtain ⟨l, hl⟩ : ∃ l, l = F.getD k [] := ⟨_, rfl⟩
      rw [← hl] at d0 HZ HZ0 HKM hlb
      have HTM := hidden (fun j hj => take_mem l j hj)
      have HTN := hidden (show l.take l.length = l from List.take_length)
      obtain ⟨q, hq⟩ : ∃ q, q = l.length := ⟨_, rfl⟩
      rw [← hq] at d0 HZ HZ0 HTM HTN hlb
      have HQ := hidden hq.symm
      have HLT := hidden hlt
      have HZC := hidden (fun W (hb : Below w.heap.size w W) j (hj : j < q) => (show ∃ b2 off2, a' = some ⟨b2, off2, none⟩ ∧ W.cell? ⟨b2, off2 + j, none⟩ = some (.int .i64 (l.getD j 0)) from by
        obtain ⟨b2, o2, e1, e2, e3⟩ := HZ0.out.atZ hb j (by have := HQ.out; omega)
        exact ⟨b2, o2, e1, e3⟩))
      clear hrz hl hq
      go_wp2
      go_loopw [22] (fun i wr => ∃ j : Nat, j ≤ q ∧ i = .int .i64 j ∧ (wr.rowIs w.heap.size 4 n fun p => .bool (anyB (F.take k) p || decide ((p : Int) ∈ l.take j))) ∧ Below w.heap.size w wr) (fun i _ => q - (intOf i).toNat)
      case atStart => exact ⟨0, by omega, rfl, HR.out.congr (fun i hi => by simp), HB.out⟩
      case round =>
        clear HR
        obtain ⟨j, hj, rfl, hri, hb⟩ := hrel
        have HR := hidden hri
        have HBJ := hidden hb
        clear hri hb
        by_cases hlt2 : j < q
        · obtain ⟨b2, off2, rfl, e0⟩ := HZC.out wr HBJ.out j hlt2
          have HTJ := hidden (HTM.out j (by have := HQ.out; omega))
          have hlt2' := hlt2
          generalize l.getD j 0 = x at *
          by_cases hx0 : 0 ≤ x
          · obtain ⟨p, rfl⟩ : ∃ p : Nat, x = p := ⟨x.toNat, by omega⟩
            have hd0 : decide (0 ≤ (p : Int)) = true := decide_eq_true hx0
            by_cases hxn : p < n
            · have hd1 : decide ((p : Int) < (n : Int)) = true := decide_eq_true (by omega)
              have hd2 : decide (p < n) = true := decide_eq_true hxn
              have f0 := HR.out.cell hxn
              have f1 := HR.out.frozen p
              have HR2 := hidden (show (wr.setCell ⟨w.heap.size, p, none⟩ (.bool true)).rowIs w.heap.size 4 n fun r => .bool (anyB (F.take k) r || decide ((r : Int) ∈ l.take (j + 1))) from (HR.out.set p (.bool true)).congr fun r hr => by
                by_cases e : r = p
                · subst e
                  have : decide ((r : Int) ∈ l.take (j + 1)) = true := decide_eq_true ((HTJ.out r).2 (.inr rfl))
                  simp [this]
                · have : decide ((r : Int) ∈ l.take (j + 1)) = decide ((r : Int) ∈ l.take j) := by
                    rw [decide_eq_decide, HTJ.out]
                    exact ⟨fun h => h.resolve_right (by omega), .inl⟩
                  simp [e, this])
              have HB2 := hidden (HBJ.out.setCell (p := ⟨w.heap.size, p, none⟩) (Nat.le_refl _) (.bool true))
              clear hx0
              go_wp2
              go_roundw
              case rel => exact ⟨j + 1, by omega, by go_num, HR2.out, HB2.out⟩
              case measure => simp [intOf]; omega
            · have hd1 : decide ((p : Int) < (n : Int)) = false := decide_eq_false (by omega)
              have hd2 : decide (p < n) = false := decide_eq_false hxn
              have HR2 := hidden (show wr.rowIs w.heap.size 4 n fun r => .bool (anyB (F.take k) r || decide ((r : Int) ∈ l.take (j + 1))) from HR.out.congr fun r hr => by
                have : decide ((r : Int) ∈ l.take (j + 1)) = decide ((r : Int) ∈ l.take j) := by
                  rw [decide_eq_decide, HTJ.out]
                  exact ⟨fun h => h.resolve_right (by omega), .inl⟩
                rw [this])
              clear hx0
              go_wp2
              go_roundw
              case rel => exact ⟨j + 1, by omega, by go_num, HR2.out, HBJ.out⟩
              case measure => simp [intOf]; omega
          · have hd0 : decide (0 ≤ x) = false := decide_eq_false hx0
            have HR2 := hidden (show wr.rowIs w.heap.size 4 n fun r => .bool (anyB (F.take k) r || decide ((r : Int) ∈ l.take (j + 1))) from HR.out.congr fun r hr => by
              have : decide ((r : Int) ∈ l.take (j + 1)) = decide ((r : Int) ∈ l.take j) := by
                rw [decide_eq_decide, HTJ.out]
                exact ⟨fun h => h.resolve_right (by omega), .inl⟩
              rw [this])
            clear hx0
            go_wp2
            go_roundw
            case rel => exact ⟨j + 1, by omega, by go_num, HR2.out, HBJ.out⟩
            case measure => simp [intOf]; omega
        · obtain rfl : j = q := by omega
          have hdj : decide ((j : Int) < (j : Int)) = false := by simp
          have HR2 := hidden (show wr.rowIs w.heap.size 4 n fun r => .bool (anyB (F.take (k + 1)) r) from HR.out.congr fun r hr => by rw [HKM.out, HTN.out])
          go_wp2
          go_roundw
          case rel => exact ⟨k + 1, by have := HLT.out; omega, by go_num, HR2.out, HBJ.out⟩
          case measure => have := HLT.out; simp [intOf]; omega
    · obtain rfl : k = m := by omega
      have hdk : decide ((k : Int) < (k : Int)) = false := by simp
      have HR1 := hidden (show wo.rowIs w.heap.size 4 n fun p => .bool (anyB F p) from HR.out.congr fun r hr => by rw [HTL.out])
      have HWL := hidden (show w.heap.size + 1 ≤ wo.heap.size from HR1.out.lt)
      have HN0 := hidden (show RowZ wo (w.heap.size + 1) (.slice none 0 0) (spI (hits (anyB F) 0)) by rw [hits_zero, spI_nil]; exact RowZ.nil _ _)
      have HTT := hidden (fun r => (show spI (hits (anyB F) (r + 1)) = if anyB F r = true then spI (hits (anyB F) r) ++ [(r : Int)] else spI (hits (anyB F) r) by
        rw [hits_more]
        split
        · rw [spI_more]
        · rfl))
      have HLN := hidden (fun r => (show (spI (hits (anyB F) r)).length ≤ r by rw [spI_len]; exact hits_len _ r))
      clear HR
      go_wp2
      go_loopw [10, 39] (fun v i wr => ∃ (r : Nat) (o : Value), r ≤ n ∧ o = v ∧ i = .int .i64 r ∧ RowZ wr (w.heap.size + 1) o (spI (hits (anyB F) r)) ∧ Below (w.heap.size + 1) wo wr ∧ wo.heap.size ≤ wr.heap.size) (fun _ i _ => n - (intOf i).toNat)
      case atStart => exact ⟨0, _, by omega, rfl, rfl, HN0.out, Below.refl _ _, Nat.le_refl _⟩
      case round =>
        clear HN0
        obtain ⟨r, o, hr, rfl, rfl, hG, hb, hs⟩ := hrel
        have HGG := hidden hG
        have HBR := hidden hb
        have HSR := hidden hs
        have hri := HR1.out.of_block (hb.block w.heap.size (by omega))
        clear hG hb hs
        by_cases hlt : r < n
        · have f0 := hri.cell hlt
          have HTK := hidden (HTT.out r)
          have hln := HLN.out r
          have hlt' := hlt
          clear hri
          generalize anyB F r = bb at *
          cases bb
          · have HE := hidden (show spI (hits (anyB F) (r + 1)) = spI (hits (anyB F) r) from HTK.out)
            go_wp2
            go_roundw
            case rel => exact ⟨r + 1, _, by omega, rfl, by go_num, by rw [HE.out]; exact HGG.out, HBR.out, HSR.out⟩
            case measure => simp [intOf]; omega
          · have HE := hidden (show spI (hits (anyB F) (r + 1)) = spI (hits (anyB F) r) ++ [(r : Int)] from HTK.out)
            obtain ⟨q, hq⟩ : ∃ q, q = (spI (hits (anyB F) r)).length := ⟨_, rfl⟩
            rw [← hq] at hln
            have HM := hidden hq.symm
            have HA := hidden (HGG.out.kept ((Below.refl wr.heap.size wr).alloc (Nat.le_refl _) (.cells #[.int .i64 (r : Int)] 3)))
            have HBA := hidden (HBR.out.alloc (by have := HSR.out; have := HWL.out; omega) (.cells #[.int .i64 (r : Int)] 3))
            clear hq
            go_wp2_with (at_builtin; refine app_z rfl _ _ rfl rfl HA.out rfl (heap_alloc_new wr _) HM.out (by omega) (by have := HSR.out; have := HWL.out; simp; omega) ?_; intro g' c3 w3 hr3 hg3 hb3; have HR3 := hidden hr3; have HB3 := hidden (HBA.out.trans hb3); have HS3 := hidden (show wo.heap.size ≤ w3.heap.size by have := hg3.size; have := HSR.out; simp at *; omega); clear hr3 hg3 hb3)
            go_roundw
            case rel => exact ⟨r + 1, _, by omega, rfl, by go_num, by rw [HE.out]; exact HR3.out, HB3.out, HS3.out⟩
            case measure => simp [intOf]; omega
        · obtain rfl : r = n := by omega
          have hdr : decide ((r : Int) < (r : Int)) = false := by simp
          have HF := hidden (HGG.out.lower (base' := w.heap.size) (by omega))
          have HBF := hidden (HB.out.trans (HBR.out.mono (by omega)))
          go_wp2
          go_ret
          exact ⟨_, rfl, HF.out, HBF.out⟩
end Go.Proofs.YtbokhofdgdcpdaaDoor

/- Contracts of Right and of the reference's Right. -/
namespace Go.Proofs.YtbokhofdgdcpdaaDoor
open Go.RowKit Go.Lib Go.Joins
def rowB (N : NetM) (i : Nat) : Bool := decide (0 ≤ N.of.getD i 0) && spotsB (N.fol.getD i []) N.sets.length
theorem rightB_lens {N : NetM} (h : ¬ (N.of.length = N.sets.length ∧ N.last.length = N.sets.length ∧ N.fol.length = N.sets.length)) : rightB N = false := by
  unfold rightB
  rw [decide_eq_false h, Bool.false_and]
theorem rightB_first {N : NetM} (h : spotsB N.first N.sets.length = false) : rightB N = false := by
  unfold rightB
  rw [h, Bool.false_and, Bool.and_false]
theorem rightB_row {N : NetM} {i : Nat} (hi : i < N.sets.length) (h : rowB N i = false) : rightB N = false := by
  unfold rightB
  have : ((List.range N.sets.length).all fun i => decide (0 ≤ N.of.getD i 0) && spotsB (N.fol.getD i []) N.sets.length) = false := by
    rw [List.all_eq_false]
    exact ⟨i, List.mem_range.2 hi, by unfold rowB at h; rw [h]; decide⟩
  rw [this, Bool.and_false, Bool.and_false]
theorem rightB_all {N : NetM} (h1 : N.of.length = N.sets.length ∧ N.last.length = N.sets.length ∧ N.fol.length = N.sets.length) (h2 : spotsB N.first N.sets.length = true) (h3 : ∀ i, i < N.sets.length → rowB N i = true) : rightB N = true := by
  unfold rightB
  rw [decide_eq_true h1, h2, Bool.true_and, Bool.true_and, List.all_eq_true]
  intro i hi
  exact h3 i (List.mem_range.1 hi)
theorem rightB_iff (N : NetM) : rightB N = true ↔ (N.of.length = N.sets.length ∧ N.last.length = N.sets.length ∧ N.fol.length = N.sets.length) ∧ spotsB N.first N.sets.length = true ∧ ∀ i, i < N.sets.length → rowB N i = true := by
  constructor
  · intro h
    refine ⟨Classical.byContradiction fun e => ?_, ?_, fun i hi => ?_⟩
    · rw [rightB_lens e] at h; cases h
    · cases e : spotsB N.first N.sets.length
      · rw [rightB_first e] at h; cases h
      · rfl
    · cases e : rowB N i
      · rw [rightB_row hi e] at h; cases h
      · rfl
  · rintro ⟨h1, h2, h3⟩
    exact rightB_all h1 h2 h3
set_option maxHeartbeats 8000000 in
set_option maxRecDepth 100000 in
theorem right12_calls {w : World} {vs vo vl vf v1 : Value} {N : NetM} (h : RdNet w.heap.size w vs vo vl vf v1 N) : Calls Tryd.prog 33 #[.agg #[vs, vo, vl, vf, v1]] w fun e w' => e = .returned (.bool (rightB N)) ∧ Below w.heap.size w w' := by
  obtain ⟨sa, cs, rfl⟩ := h.sets.form
  obtain ⟨so, co, rfl⟩ := h.of.form
  obtain ⟨sl, cl, rfl⟩ := h.last.form
  obtain ⟨sf, cf, rfl⟩ := h.fol.form
  obtain ⟨s1, c1, rfl⟩ := h.first.form
  have hnb := h.of.bound.2
  have hba := (Below.refl w.heap.size w).alloc (Nat.le_refl _) (.cells #[.slice sa N.sets.length cs, .slice so N.of.length co, .slice sl N.last.length cl, .slice sf N.fol.length cf, .slice s1 N.first.length c1] 48)
  have HBA := hidden hba
  have HBX := hidden (net_box w (.slice sa N.sets.length cs) (.slice so N.of.length co) (.slice sl N.last.length cl) (.slice sf N.fol.length cf) (.slice s1 N.first.length c1) 48)
  have HFS := hidden (fun W (hb : Below w.heap.size w W) => (areSpots_calls (n := N.sets.length) ((h.first).later hb)))
  have HOF := hidden (fun W (hb : Below w.heap.size w W) i (hi : i < N.of.length) => h.of.atZ hb i hi)
  have HFO := hidden (fun W (hb : Below w.heap.size w W) i (hi : i < N.fol.length) => h.fol.at hb i hi)
  have HSP := hidden (fun W (hb : Below w.heap.size w W) a' c' i (hr : RdZ w.heap.size W (.slice a' (N.fol.getD i []).length c') (N.fol.getD i [])) => (areSpots_calls (n := N.sets.length) (hr.below (Below.refl _ _) hb.size)))
  have HX1 := hidden (rightB_lens (N := N))
  have HX2 := hidden (rightB_first (N := N))
  have HX3 := hidden (fun i => rightB_row (N := N) (i := i))
  have HX4 := hidden (rightB_all (N := N))
  obtain ⟨ns, hns⟩ : ∃ k, k = N.sets.length := ⟨_, rfl⟩
  obtain ⟨no, hno⟩ : ∃ k, k = N.of.length := ⟨_, rfl⟩
  obtain ⟨nl, hnl⟩ : ∃ k, k = N.last.length := ⟨_, rfl⟩
  obtain ⟨nf, hnf⟩ : ∃ k, k = N.fol.length := ⟨_, rfl⟩
  obtain ⟨n1, hn1⟩ : ∃ k, k = N.first.length := ⟨_, rfl⟩
  have HRB := hidden (fun i => (show rowB N i = (decide (0 ≤ N.of.getD i 0) && spotsB (N.fol.getD i []) ns) by rw [hns]; rfl))
  rw [← hns, ← hno, ← hnl, ← hnf] at HX1 HX4
  rw [← hns] at HX2 HX3 HSP HFS HBX HBA ⊢
  rw [← hno] at HOF HBX HBA hnb ⊢
  rw [← hnl] at HBX HBA ⊢
  rw [← hnf] at HFO HBX HBA ⊢
  rw [← hn1] at HFS HBX HBA ⊢
  clear h hba hns hno hnl hnf hn1
  generalize rightB N = R at *
  generalize spotsB N.first ns = f1 at *
  by_cases e0 : no = ns
  case neg =>
    have HE := hidden (HX1.out (fun h => e0 h.1))
    have q0 : ((no : Int) != (ns : Int)) = true := by rw [bne_iff_ne]; omega
    clear e0 HX1 HX2 HX3 HX4
    obtain ⟨b0, b1, b2, b3, b4⟩ := HBX.out _ (Below.refl _ _)
    go_enter Tryd.func33, Tryd.ntmps33
    go_wp2
    go_ret
    exact ⟨ret_b HE.out.symm, HBA.out⟩
  have q0 : ((no : Int) != (ns : Int)) = false := by rw [bne_eq_false_iff_eq]; omega
  have E0 := hidden e0
  clear e0
  by_cases e1 : nl = ns
  case neg =>
    have HE := hidden (HX1.out (fun h => e1 h.2.1))
    have q1 : ((nl : Int) != (ns : Int)) = true := by rw [bne_iff_ne]; omega
    clear e1 HX1 HX2 HX3 HX4
    obtain ⟨b0, b1, b2, b3, b4⟩ := HBX.out _ (Below.refl _ _)
    go_enter Tryd.func33, Tryd.ntmps33
    go_wp2
    go_ret
    exact ⟨ret_b HE.out.symm, HBA.out⟩
  have q1 : ((nl : Int) != (ns : Int)) = false := by rw [bne_eq_false_iff_eq]; omega
  have E1 := hidden e1
  clear e1
  by_cases e2 : nf = ns
  case neg =>
    have HE := hidden (HX1.out (fun h => e2 h.2.2))
    have q2 : ((nf : Int) != (ns : Int)) = true := by rw [bne_iff_ne]; omega
    clear e2 HX1 HX2 HX3 HX4
    obtain ⟨b0, b1, b2, b3, b4⟩ := HBX.out _ (Below.refl _ _)
    go_enter Tryd.func33, Tryd.ntmps33
    go_wp2
    go_ret
    exact ⟨ret_b HE.out.symm, HBA.out⟩
  have q2 : ((nf : Int) != (ns : Int)) = false := by rw [bne_eq_false_iff_eq]; omega
  have E2 := hidden e2
  clear e2
  have HLN := hidden (show no = ns ∧ nl = ns ∧ nf = ns from ⟨E0.out, E1.out, E2.out⟩)
  cases f1
  case false =>
    have HE := hidden (HX2.out rfl)
    clear HX1 HX2 HX3 HX4
    obtain ⟨b0, b1, b2, b3, b4⟩ := HBX.out _ (Below.refl _ _)
    go_enter Tryd.func33, Tryd.ntmps33
    go_wp2_with fail
    refine (HFS.out _ HBA.out).mono ?_
    rintro e w1 ⟨rfl, hb1⟩
    go_wp2
    go_ret
    exact ⟨ret_b HE.out.symm, below_then HBA.out (by simp) hb1⟩
  case true =>
    have HX5 := hidden (HX4.out HLN.out rfl)
    clear HX1 HX2 HX4
    obtain ⟨b0, b1, b2, b3, b4⟩ := HBX.out _ (Below.refl _ _)
    go_enter Tryd.func33, Tryd.ntmps33
    go_wp2_with fail
    refine (HFS.out _ HBA.out).mono ?_
    rintro e w1 ⟨rfl, hb1⟩
    have HB1 := hidden (show Below (w.heap.size + 1) (w.alloc (.cells #[.slice sa ns cs, .slice so no co, .slice sl nl cl, .slice sf nf cf, .slice s1 n1 c1] 48)) w1 by simpa using hb1)
    clear hb1 b0 b1 b2 b3 b4
    go_wp2
    go_loopw [35] (fun i wr => ∃ k : Nat, k ≤ ns ∧ i = .int .i64 k ∧ Hid (∀ j, j < k → rowB N j = true) ∧ Below (w.heap.size + 1) (w.alloc (.cells #[.slice sa ns cs, .slice so no co, .slice sl nl cl, .slice sf nf cf, .slice s1 n1 c1] 48)) wr) (fun i _ => ns - (intOf i).toNat)
    case atStart => exact ⟨0, by omega, rfl, hidden (fun j hj => absurd hj (by omega)), HB1.out⟩
    case round =>
      clear HB1
      obtain ⟨k, hk, rfl, hd, hb2⟩ := hrel
      have HB := hidden hb2
      obtain ⟨b0, b1, b2, b3, b4⟩ := HBX.out wr HB.out
      have HBW := hidden (show Below w.heap.size w wr from HBA.out.trans (hb2.mono (by omega)))
      clear hb2
      by_cases hlt : k < ns
      · have hlo : k < no := by have := HLN.out; omega
        have hlf : k < nf := by have := HLN.out; omega
        obtain ⟨bo, oo, rfl, hbo, c0⟩ := HOF.out wr HBW.out k hlo
        obtain ⟨bf, of, a', c', rfl, hbf, d0, hr⟩ := HFO.out wr HBW.out k hlf
        have HS := hidden (fun W (hb : Below wr.heap.size wr W) => HSP.out W (below_after HBW.out hb) a' c' k (hr.below (hb.mono HBW.out.size) (Nat.le_refl _)))
        have HK := hidden (HRB.out k)
        have hlt' := hlt
        have hkb : IntKind.i64.wrap ((k : Int) + 1) = (k : Int) + 1 := by rw [IntKind.wrap_i64]; have := HLN.out; omega
        obtain ⟨lk, hlk⟩ : ∃ lk, lk = (N.fol.getD k []).length := ⟨_, rfl⟩
        rw [← hlk] at d0 HS
        generalize spotsB (N.fol.getD k []) ns = sk at *
        generalize N.of.getD k 0 = x at *
        clear hr hlk
        by_cases hx : x < 0
        case pos =>
          have hd0 : decide (x < 0) = true := decide_eq_true hx
          have HE := hidden (HX3.out k hlt (by rw [HK.out, decide_eq_false (show ¬ 0 ≤ x by omega), Bool.false_and]))
          clear hx
          go_wp2
          go_ret
          exact ⟨ret_b HE.out.symm, HBW.out⟩
        case neg =>
          have hd0 : decide (x < 0) = false := decide_eq_false hx
          rw [decide_eq_true (show 0 ≤ x by omega), Bool.true_and] at HK
          clear hx
          cases sk
          case false =>
            have HE := hidden (HX3.out k hlt HK.out)
            go_wp2_with fail
            refine (HS.out _ (Below.refl _ _)).mono ?_
            rintro e w5 ⟨rfl, hb5⟩
            go_wp2
            go_ret
            exact ⟨ret_b HE.out.symm, below_after HBW.out hb5⟩
          case true =>
            have HD2 := hidden (show ∀ j, j < k + 1 → rowB N j = true from fun j hj => by
              by_cases e : j = k
              · subst e; exact HK.out
              · exact hd.out j (by omega))
            go_wp2_with fail
            refine (HS.out _ (Below.refl _ _)).mono ?_
            rintro e w5 ⟨rfl, hb5⟩
            have HB5 := hidden (below_then HB.out (by have := HB.out.size; simpa using this) hb5)
            clear hb5
            go_wp2
            go_roundw
            case rel => exact ⟨k + 1, by omega, by go_num, HD2, HB5.out⟩
            case measure => simp [intOf]; omega
      · obtain rfl : k = ns := by omega
        have HE := hidden (HX5.out hd.out)
        have hdd : decide ((k : Int) < (k : Int)) = false := by simp
        clear hd
        go_wp2
        go_ret
        exact ⟨ret_b HE.out.symm, HBW.out⟩
set_option maxHeartbeats 8000000 in
set_option maxRecDepth 100000 in
theorem rright12_calls {w : World} {vs vo vl vf v1 : Value} {N : NetM} (h : RdNet w.heap.size w vs vo vl vf v1 N) : Calls Tryd.prog 35 #[.agg #[vs, vo, vl, vf, v1]] w fun e w' => e = .returned (.bool (rightB N)) ∧ Below w.heap.size w w' := by
  obtain ⟨sa, cs, rfl⟩ := h.sets.form
  obtain ⟨so, co, rfl⟩ := h.of.form
  obtain ⟨sl, cl, rfl⟩ := h.last.form
  obtain ⟨sf, cf, rfl⟩ := h.fol.form
  obtain ⟨s1, c1, rfl⟩ := h.first.form
  have hnb := h.of.bound.2
  have hba := (Below.refl w.heap.size w).alloc (Nat.le_refl _) (.cells #[.slice sa N.sets.length cs, .slice so N.of.length co, .slice sl N.last.length cl, .slice sf N.fol.length cf, .slice s1 N.first.length c1] 48)
  have HBA := hidden hba
  have HBX := hidden (net_box w (.slice sa N.sets.length cs) (.slice so N.of.length co) (.slice sl N.last.length cl) (.slice sf N.fol.length cf) (.slice s1 N.first.length c1) 48)
  have HFS := hidden (fun W (hb : Below w.heap.size w W) => (rspots_calls (vo := .slice so N.of.length co) (vl := .slice sl N.last.length cl) (vf := .slice sf N.fol.length cf) (v1 := .slice s1 N.first.length c1) (sa := sa) (n := N.sets.length) (cs := cs) ((h.first).later hb)))
  have HOF := hidden (fun W (hb : Below w.heap.size w W) i (hi : i < N.of.length) => h.of.atZ hb i hi)
  have HFO := hidden (fun W (hb : Below w.heap.size w W) i (hi : i < N.fol.length) => h.fol.at hb i hi)
  have HSP := hidden (fun W (hb : Below w.heap.size w W) a' c' i (hr : RdZ w.heap.size W (.slice a' (N.fol.getD i []).length c') (N.fol.getD i [])) => (rspots_calls (vo := .slice so N.of.length co) (vl := .slice sl N.last.length cl) (vf := .slice sf N.fol.length cf) (v1 := .slice s1 N.first.length c1) (sa := sa) (n := N.sets.length) (cs := cs) (hr.below (Below.refl _ _) hb.size)))
  have HX1 := hidden (rightB_lens (N := N))
  have HX2 := hidden (rightB_first (N := N))
  have HX3 := hidden (fun i => rightB_row (N := N) (i := i))
  have HX4 := hidden (rightB_all (N := N))
  obtain ⟨ns, hns⟩ : ∃ k, k = N.sets.length := ⟨_, rfl⟩
  obtain ⟨no, hno⟩ : ∃ k, k = N.of.length := ⟨_, rfl⟩
  obtain ⟨nl, hnl⟩ : ∃ k, k = N.last.length := ⟨_, rfl⟩
  obtain ⟨nf, hnf⟩ : ∃ k, k = N.fol.length := ⟨_, rfl⟩
  obtain ⟨n1, hn1⟩ : ∃ k, k = N.first.length := ⟨_, rfl⟩
  have HRB := hidden (fun i => (show rowB N i = (decide (0 ≤ N.of.getD i 0) && spotsB (N.fol.getD i []) ns) by rw [hns]; rfl))
  rw [← hns, ← hno, ← hnl, ← hnf] at HX1 HX4
  rw [← hns] at HX2 HX3 HSP HFS HBX HBA ⊢
  rw [← hno] at HOF HBX HBA HFS HSP hnb ⊢
  rw [← hnl] at HBX HBA HFS HSP ⊢
  rw [← hnf] at HFO HBX HBA HFS HSP ⊢
  rw [← hn1] at HFS HSP HBX HBA ⊢
  clear h hba hns hno hnl hnf hn1
  generalize rightB N = R at *
  generalize spotsB N.first ns = f1 at *
  by_cases e0 : no = ns
  case neg =>
    have HE := hidden (HX1.out (fun h => e0 h.1))
    have q0 : ((no : Int) != (ns : Int)) = true := by rw [bne_iff_ne]; omega
    clear e0 HX1 HX2 HX3 HX4
    obtain ⟨b0, b1, b2, b3, b4⟩ := HBX.out _ (Below.refl _ _)
    go_enter Tryd.func35, Tryd.ntmps35
    go_wp2
    go_ret
    exact ⟨ret_b HE.out.symm, HBA.out⟩
  have q0 : ((no : Int) != (ns : Int)) = false := by rw [bne_eq_false_iff_eq]; omega
  have E0 := hidden e0
  clear e0
  by_cases e1 : nl = ns
  case neg =>
    have HE := hidden (HX1.out (fun h => e1 h.2.1))
    have q1 : ((nl : Int) != (ns : Int)) = true := by rw [bne_iff_ne]; omega
    clear e1 HX1 HX2 HX3 HX4
    obtain ⟨b0, b1, b2, b3, b4⟩ := HBX.out _ (Below.refl _ _)
    go_enter Tryd.func35, Tryd.ntmps35
    go_wp2
    go_ret
    exact ⟨ret_b HE.out.symm, HBA.out⟩
  have q1 : ((nl : Int) != (ns : Int)) = false := by rw [bne_eq_false_iff_eq]; omega
  have E1 := hidden e1
  clear e1
  by_cases e2 : nf = ns
  case neg =>
    have HE := hidden (HX1.out (fun h => e2 h.2.2))
    have q2 : ((nf : Int) != (ns : Int)) = true := by rw [bne_iff_ne]; omega
    clear e2 HX1 HX2 HX3 HX4
    obtain ⟨b0, b1, b2, b3, b4⟩ := HBX.out _ (Below.refl _ _)
    go_enter Tryd.func35, Tryd.ntmps35
    go_wp2
    go_ret
    exact ⟨ret_b HE.out.symm, HBA.out⟩
  have q2 : ((nf : Int) != (ns : Int)) = false := by rw [bne_eq_false_iff_eq]; omega
  have E2 := hidden e2
  clear e2
  have HLN := hidden (show no = ns ∧ nl = ns ∧ nf = ns from ⟨E0.out, E1.out, E2.out⟩)
  cases f1
  case false =>
    have HE := hidden (HX2.out rfl)
    clear HX1 HX2 HX3 HX4
    obtain ⟨b0, b1, b2, b3, b4⟩ := HBX.out _ (Below.refl _ _)
    go_enter Tryd.func35, Tryd.ntmps35
    go_wp2_with fail
    refine (HFS.out _ HBA.out).mono ?_
    rintro e w1 ⟨rfl, hb1⟩
    go_wp2
    go_ret
    exact ⟨ret_b HE.out.symm, below_then HBA.out (by simp) hb1⟩
  case true =>
    have HX5 := hidden (HX4.out HLN.out rfl)
    clear HX1 HX2 HX4
    obtain ⟨b0, b1, b2, b3, b4⟩ := HBX.out _ (Below.refl _ _)
    go_enter Tryd.func35, Tryd.ntmps35
    go_wp2_with fail
    refine (HFS.out _ HBA.out).mono ?_
    rintro e w1 ⟨rfl, hb1⟩
    have HB1 := hidden (show Below (w.heap.size + 1) (w.alloc (.cells #[.slice sa ns cs, .slice so no co, .slice sl nl cl, .slice sf nf cf, .slice s1 n1 c1] 48)) w1 by simpa using hb1)
    clear hb1 b0 b1 b2 b3 b4
    go_wp2
    go_loopw [3] (fun i wr => ∃ k : Nat, k ≤ ns ∧ i = .int .i64 k ∧ Hid (∀ j, j < k → rowB N j = true) ∧ Below (w.heap.size + 1) (w.alloc (.cells #[.slice sa ns cs, .slice so no co, .slice sl nl cl, .slice sf nf cf, .slice s1 n1 c1] 48)) wr) (fun i _ => ns - (intOf i).toNat)
    case atStart => exact ⟨0, by omega, rfl, hidden (fun j hj => absurd hj (by omega)), HB1.out⟩
    case round =>
      clear HB1
      obtain ⟨k, hk, rfl, hd, hb2⟩ := hrel
      have HB := hidden hb2
      obtain ⟨b0, b1, b2, b3, b4⟩ := HBX.out wr HB.out
      have HBW := hidden (show Below w.heap.size w wr from HBA.out.trans (hb2.mono (by omega)))
      clear hb2
      by_cases hlt : k < ns
      · have hlo : k < no := by have := HLN.out; omega
        have hlf : k < nf := by have := HLN.out; omega
        obtain ⟨bo, oo, rfl, hbo, c0⟩ := HOF.out wr HBW.out k hlo
        obtain ⟨bf, of, a', c', rfl, hbf, d0, hr⟩ := HFO.out wr HBW.out k hlf
        have HS := hidden (fun W (hb : Below wr.heap.size wr W) => HSP.out W (below_after HBW.out hb) a' c' k (hr.below (hb.mono HBW.out.size) (Nat.le_refl _)))
        have HK := hidden (HRB.out k)
        have hlt' := hlt
        have hkb : IntKind.i64.wrap ((k : Int) + 1) = (k : Int) + 1 := by rw [IntKind.wrap_i64]; have := HLN.out; omega
        obtain ⟨lk, hlk⟩ : ∃ lk, lk = (N.fol.getD k []).length := ⟨_, rfl⟩
        rw [← hlk] at d0 HS
        generalize spotsB (N.fol.getD k []) ns = sk at *
        generalize N.of.getD k 0 = x at *
        clear hr hlk
        by_cases hx : x < 0
        case pos =>
          have hd0 : decide (x < 0) = true := decide_eq_true hx
          have HE := hidden (HX3.out k hlt (by rw [HK.out, decide_eq_false (show ¬ 0 ≤ x by omega), Bool.false_and]))
          clear hx
          have hbl : w.heap.size < wr.heap.size := by have := HB.out.size; simp at this; omega
          have hsw := HBW.out.size
          have hcc := fun (p : Later wr) => Later.cell c0 (show bo < wr.heap.size by omega) p
          have hdc := fun (p : Later wr) => Later.cell d0 (show bf < wr.heap.size by omega) p
          have h0 := fun (p : Later wr) => Later.cell b0 hbl p
          have h1 := fun (p : Later wr) => Later.cell b1 hbl p
          have h2 := fun (p : Later wr) => Later.cell b2 hbl p
          have h3 := fun (p : Later wr) => Later.cell b3 hbl p
          have h4 := fun (p : Later wr) => Later.cell b4 hbl p
          have HSL := hidden (fun (p : Later wr) => HS.out p.at' p.ok)
          go_wp2
          refine wp_region_later (by kernel_rfl) (by kernel_rfl) ?_
          repeat (go_big_quiet_step (with_reducible exact Later.calls (HSL.out _)))
          refine wpQuiet_nil ?_
          rintro _ ⟨⟨_, hb5⟩, rfl⟩
          rename_i w5
          have HB5 := hidden (below_then HB.out (by have := HB.out.size; simpa using this) hb5)
          have HBW5 := hidden (below_after HBW.out hb5)
          clear hb5 hcc hdc h0 h1 h2 h3 h4
          go_wp2
          go_ret
          exact ⟨ret_b HE.out.symm, HBW5.out⟩
        case neg =>
          have hd0 : decide (x < 0) = false := decide_eq_false hx
          rw [decide_eq_true (show 0 ≤ x by omega), Bool.true_and] at HK
          clear hx
          cases sk
          case false =>
            have HE := hidden (HX3.out k hlt HK.out)
            have hbl : w.heap.size < wr.heap.size := by have := HB.out.size; simp at this; omega
            have hsw := HBW.out.size
            have hcc := fun (p : Later wr) => Later.cell c0 (show bo < wr.heap.size by omega) p
            have hdc := fun (p : Later wr) => Later.cell d0 (show bf < wr.heap.size by omega) p
            have h0 := fun (p : Later wr) => Later.cell b0 hbl p
            have h1 := fun (p : Later wr) => Later.cell b1 hbl p
            have h2 := fun (p : Later wr) => Later.cell b2 hbl p
            have h3 := fun (p : Later wr) => Later.cell b3 hbl p
            have h4 := fun (p : Later wr) => Later.cell b4 hbl p
            have HSL := hidden (fun (p : Later wr) => HS.out p.at' p.ok)
            go_wp2
            refine wp_region_later (by kernel_rfl) (by kernel_rfl) ?_
            repeat (go_big_quiet_step (with_reducible exact Later.calls (HSL.out _)))
            refine wpQuiet_nil ?_
            rintro _ ⟨⟨_, hb5⟩, rfl⟩
            rename_i w5
            have HB5 := hidden (below_then HB.out (by have := HB.out.size; simpa using this) hb5)
            have HBW5 := hidden (below_after HBW.out hb5)
            clear hb5 hcc hdc h0 h1 h2 h3 h4
            go_wp2
            go_ret
            exact ⟨ret_b HE.out.symm, HBW5.out⟩
          case true =>
            have HD2 := hidden (show ∀ j, j < k + 1 → rowB N j = true from fun j hj => by
              by_cases e : j = k
              · subst e; exact HK.out
              · exact hd.out j (by omega))
            have hbl : w.heap.size < wr.heap.size := by have := HB.out.size; simp at this; omega
            have hsw := HBW.out.size
            have hcc := fun (p : Later wr) => Later.cell c0 (show bo < wr.heap.size by omega) p
            have hdc := fun (p : Later wr) => Later.cell d0 (show bf < wr.heap.size by omega) p
            have h0 := fun (p : Later wr) => Later.cell b0 hbl p
            have h1 := fun (p : Later wr) => Later.cell b1 hbl p
            have h2 := fun (p : Later wr) => Later.cell b2 hbl p
            have h3 := fun (p : Later wr) => Later.cell b3 hbl p
            have h4 := fun (p : Later wr) => Later.cell b4 hbl p
            have HSL := hidden (fun (p : Later wr) => HS.out p.at' p.ok)
            go_wp2
            refine wp_region_later (by kernel_rfl) (by kernel_rfl) ?_
            repeat (go_big_quiet_step (with_reducible exact Later.calls (HSL.out _)))
            refine wpQuiet_nil ?_
            rintro _ ⟨⟨_, hb5⟩, rfl⟩
            rename_i w5
            have HB5 := hidden (below_then HB.out (by have := HB.out.size; simpa using this) hb5)
            have HBW5 := hidden (below_after HBW.out hb5)
            clear hb5 hcc hdc h0 h1 h2 h3 h4
            go_wp2
            go_roundw
            case rel => exact ⟨k + 1, by omega, by go_num, HD2, HB5.out⟩
            case measure => simp [intOf]; omega
      · obtain rfl : k = ns := by omega
        have HE := hidden (HX5.out hd.out)
        have hdd : decide ((k : Int) < (k : Int)) = false := by simp
        clear hd
        go_wp2
        go_ret
        exact ⟨ret_b HE.out.symm, HBW.out⟩
end Go.Proofs.YtbokhofdgdcpdaaDoor

/- Contracts of step and Start, and of the reference's Start. -/
namespace Go.Proofs.YtbokhofdgdcpdaaDoor
open Go.RowKit Go.Lib Go.Joins
theorem infoInts : (Tryd.prog.info? 30).map (fun i => (i.zero, i.size, i.bytes)) = some (some (.slice none 0 0), 1, 24) := by kernel_rfl
/-- a row of slices -/
def RowV (w : World) (base : Nat) (v : Value) (us : List Value) : Prop := w.ownsRow base 30 1 v us.length us
theorem RowV.form {w : World} {base : Nat} {v : Value} {us : List Value} (h : RowV w base v us) : ∃ a cap, v = .slice a us.length cap := by
  rcases ownsRow_forms h with ⟨rfl, h0⟩ | ⟨g, cap, rfl⟩
  · exact ⟨none, 0, by rw [h0]⟩
  · exact ⟨_, _, rfl⟩
theorem RowV.reads {w : World} {base : Nat} {v : Value} {us : List Value} {F : List (List Int)} (h : RowV w base v us) (hl : us.length = F.length) (hr : ∀ i, i < F.length → RdZ w.heap.size w (us.getD i (.slice none 0 0)) (F.getD i [])) : RdZZ w.heap.size w v F := by
  rcases ownsRow_forms h with ⟨rfl, h0⟩ | ⟨g, cap, rfl⟩
  · have h1 : F.length = 0 := by omega
    exact ⟨none, 0, by rw [h1], by omega, by decide, fun _ => rfl, fun hp => by omega⟩
  · have hcell : ∀ i, i < us.length → w.cell? ⟨g, i, none⟩ = us[i]? := fun i hi => World.ownsRow.cellAt h i (by omega)
    have hlt := (World.ownsRow.lt h g rfl).2
    have hcap : us.length ≤ cap ∧ cap ≤ maxLen := by
      rcases h.2 with ⟨e, _⟩ | ⟨g', cap', cur, e, _, _, hn, hm, _⟩
      · cases e
      · simp only [Value.slice.injEq, Option.some.injEq, Addr.mk.injEq, and_true, true_and] at e
        obtain ⟨rfl, rfl⟩ := e
        exact ⟨hn, hm⟩
    rw [hl] at hcap ⊢
    refine ⟨some ⟨g, 0, none⟩, cap, rfl, hcap.1, hcap.2, (fun e => by cases e), fun _ => ⟨g, 0, rfl, hlt, fun i hi => ⟨us.getD i (.slice none 0 0), ?_, hr i hi⟩⟩⟩
    rw [Nat.zero_add, hcell i (by omega), List.getD_eq_getElem?_getD, List.getElem?_eq_getElem (by omega)]
    rfl
theorem RowV.kept {w w' : World} {base : Nat} {v : Value} {us : List Value} (h : RowV w base v us) (hb : Below w.heap.size w w') : RowV w' base v us :=
  World.ownsRow.kept (row := none) h ⟨hb.os, hb.tape, hb.output, hb.size, fun k hk _ => hb.block k hk⟩ (by cases v.ownBlock <;> simp)
theorem app_v {w : World} {ops : Array Oper} {rest : List Oper} {o : Oper} {a : Act} {Q : Exit → Act → World → Prop} (hgd : o.guard = none) (s x : Operand)
    (ho : o.op = .call { callee := .builtin .append, args := #[s, x], argTypes := #[46, 46] }) {base xb : Nat} {z : Value} (hz : z.oneCell' = true) {v : Value} {l : List Value}
    (hs : a.eval s = v) (hown : RowV w base v l) (hx : a.eval x = .slice (some ⟨xb, 0, none⟩) 1 1) (hxb : w.heap[xb]? = some (.cells #[z] 30 (0, 0))) {n : Nat} (hn : l.length = n) (hn2 : n ≤ 100000) (hb0 : base ≤ w.heap.size)
    (h : ∀ g' c' w', RowV w' base (.slice (some ⟨g', 0, none⟩) (n + 1) c') (l ++ [z]) → w.grownBy w' v.ownBlock → Below base w w' → wpList Tryd.prog ops Q rest (a.put o.dst (.slice (some ⟨g', 0, none⟩) (n + 1) c')) w') : wpList Tryd.prog ops Q (o :: rest) a w := by
  subst hn
  obtain ⟨i0, hi, hz0, hz1, hz2⟩ := info_parts infoInts
  refine wpList_append_own w hgd s x 46 ho base 30 i0 _ 1 24 Tryd.underlying46 hi hz0 hz1 hz2 rfl (by decide) _ l.length l hs hown ⟨xb, 0, none⟩ 1 1 [z] hx rfl (fun j x hj => ?_) (fun x hx => by simp at hx; subst hx; exact hz) (by unfold maxLen; omega) (by omega) hb0 fun v' w' h3 h4 _ => ?_
  · match j, hj with
    | 0, hj =>
      simp only [List.getElem?_cons_zero, Option.some.injEq] at hj
      subst hj
      rw [Addr.add_lit, cell_of_row w xb _ _ _ _ hxb]
      rfl
  · have hb : Below base w w' := (Below.refl base w).grown h4 hb0 fun k e => (hown.lt k e).1
    rcases ownsRow_forms h3 with ⟨_, h0⟩ | ⟨g, c, rfl⟩
    · omega
    · exact h g c w' (by unfold RowV; simpa using h3) h4 hb
/-- what stands behind some spots -/
def folsOf (N : NetM) (l : List Int) : List (List Int) := l.map fun x => N.fol.getD x.toNat []
theorem hits_congr {G H : Nat → Bool} {n : Nat} (h : ∀ p, p < n → G p = H p) : hits G n = hits H n := by
  unfold hits
  refine List.filter_congr fun p hp => h p (List.mem_range.1 hp)
theorem with_hits (S : List Stp) (b : Nat) (G : Nat → Bool) (n : Nat) : hits (withG S b (spI (hits G n))) n = hits (fun q => G q && selB S b q) n := hits_congr fun p hp => by
  unfold withG
  congr 1
  rw [Bool.eq_iff_iff, decide_eq_true_eq, mem_spI, hits_mem]
  exact ⟨fun h => h.2, fun h => ⟨hp, h⟩⟩
theorem right_first {N : NetM} (h : rightB N = true) : N.first.Pairwise (· < ·) ∧ ∀ x ∈ N.first, 0 ≤ x ∧ x < N.sets.length := by
  have h1 := ((rightB_iff N).1 h).2.1
  unfold spotsB at h1
  simp only [Bool.and_eq_true, List.all_eq_true, decide_eq_true_eq] at h1
  exact ⟨of_decide_eq_true h1.1, h1.2⟩
theorem right_fol {N : NetM} (h : rightB N = true) (i : Nat) (hi : i < N.sets.length) : 0 ≤ N.of.getD i 0 ∧ ∀ x ∈ N.fol.getD i [], 0 ≤ x ∧ x < N.sets.length := by
  have h1 := ((rightB_iff N).1 h).2.2 i hi
  unfold rowB spotsB at h1
  simp only [Bool.and_eq_true, List.all_eq_true, decide_eq_true_eq] at h1
  exact ⟨h1.1, h1.2.2⟩
set_option maxHeartbeats 8000000 in
set_option maxRecDepth 100000 in
theorem step_calls {w : World} {v vs vo vl vf v1 : Value} {N : NetM} {b : Nat} {l : List Int} (h : RdNet w.heap.size w vs vo vl vf v1 N) (hw : ∀ s ∈ N.sets, s.wide) (hR : rightB N = true) (hn : N.sets.length ≤ 100000) (hr : RdZ w.heap.size w v l) (hb : b < 256) (hl : ∀ x ∈ l, 0 ≤ x ∧ x < N.sets.length) (hlen : l.length ≤ 100000) :
    Calls Tryd.prog 70 #[.agg #[vs, vo, vl, vf, v1], v, .int .u8 b] w (RetZ w (spI (hits (fun q => anyB (folsOf N l) q && selB N.sets b q) N.sets.length))) := by
  have hba := (Below.refl w.heap.size w).alloc (Nat.le_refl _) (.cells #[vs, vo, vl, vf, v1] 48)
  have hbx := net_box w vs vo vl vf v1 48
  obtain ⟨w0, hw0⟩ : ∃ w0, w0 = w.alloc (.cells #[vs, vo, vl, vf, v1] 48) := ⟨_, rfl⟩
  have hs0 : w0.heap.size = w.heap.size + 1 := by rw [hw0]; simp
  rw [← hw0] at hba hbx
  obtain ⟨sa, cs, rfl⟩ := h.sets.form
  obtain ⟨sf, cf, rfl⟩ := h.fol.form
  obtain ⟨a, c, rfl⟩ := hr.form
  have hlens := ((rightB_iff N).1 hR).1
  have HBA := hidden hba
  have HBX := hidden hbx
  have HW0 := hidden hw0
  have HS0 := hidden hs0
  have HA := hidden (fun W (hb : Below w.heap.size w W) i (hi : i < l.length) => hr.atZ hb i hi)
  have HL := hidden (fun i (hi : i < l.length) => (show ∃ p : Nat, l.getD i 0 = p ∧ p < N.fol.length from by
    have := hl _ (getD_inZ hi)
    exact ⟨(l.getD i 0).toNat, by omega, by omega⟩))
  have HFO := hidden (fun W (hb : Below w.heap.size w W) i (hi : i < N.fol.length) => h.fol.at hb i hi)
  have HFM := hidden (fun k (hk : k < l.length) (p : Nat) (hp : l.getD k 0 = (p : Int)) => (show folsOf N (l.take (k + 1)) = folsOf N (l.take k) ++ [N.fol.getD p []] from by
    unfold folsOf
    rw [List.take_succ_eq_append_getElem hk, List.map_append]
    have e : l[k] = (p : Int) := by
      rw [← hp, List.getD_eq_getElem?_getD, List.getElem?_eq_getElem hk]
      rfl
    simp [e]))
  have HFE := hidden (show folsOf N (l.take l.length) = folsOf N l by rw [List.take_length])
  have HHV := hidden (fun W (hb : Below w.heap.size w W) v G (hv : RdZ W.heap.size W v (spI (hits G N.sets.length))) => (show Calls Tryd.prog 68 #[.agg #[.slice sa N.sets.length cs, vo, vl, .slice sf N.fol.length cf, v1], v, .int .u8 b] W (RetZ W (spI (hits (fun q => G q && selB N.sets b q) N.sets.length))) from by
    have hll : ∀ x ∈ spI (hits G N.sets.length), 0 ≤ x ∧ x < N.sets.length := fun x hx => by
      obtain ⟨p, rfl, hp⟩ := (mem_spIZ _ _).1 hx
      have := ((hits_mem _ _ _).1 hp).1
      omega
    have h1 := having_calls (vo := vo) (vl := vl) (vf := .slice sf N.fol.length cf) (v1 := v1) (b := b) (h.sets.below hb hb.size) hw hv (by assumption) hll (by rw [spI_len]; have := hits_len G N.sets.length; omega)
    rw [filter_with (spI_up (hits_up _ _)) hll, with_hits] at h1
    exact h1))
  obtain ⟨ns, hns⟩ : ∃ ns, ns = N.sets.length := ⟨_, rfl⟩
  obtain ⟨nf, hnf⟩ : ∃ nf, nf = N.fol.length := ⟨_, rfl⟩
  obtain ⟨m, hm⟩ : ∃ m, m = l.length := ⟨_, rfl⟩
  rw [← hns] at HHV HBX hn ⊢
  rw [← hnf] at HL HFO HHV HBX ⊢
  rw [← hm] at HA HL HFM HFE hlen ⊢
  have HW0 := hidden (show w0 = w.alloc (.cells #[.slice sa ns cs, vo, vl, .slice sf nf cf, v1] 48) by rw [hns, hnf]; exact hw0)
  have HMM := hidden hm
  clear h hba hbx hw hR hr hl hlens hw0 hs0 hns hnf hm
  go_enter Tryd.func70, Tryd.ntmps70
  go_wp2
  rw [← HW0.out]
  go_loopw [7, 12] (fun v i wr => ∃ (k : Nat) (o : Value) (us : List Value), k ≤ m ∧ o = v ∧ i = .int .i64 k ∧ RowV wr (w.heap.size + 1) o us ∧ Hid (us.length = k ∧ (folsOf N (l.take k)).length = k ∧ ∀ j, j < k → RdZ w.heap.size w (us.getD j (.slice none 0 0)) ((folsOf N (l.take k)).getD j [])) ∧ Below (w.heap.size + 1) w0 wr) (fun _ i _ => m - (intOf i).toNat)
  case atStart => exact ⟨0, _, [], by omega, rfl, rfl, World.ownsRow_nil _ _ _ _, hidden ⟨rfl, rfl, fun j hj => absurd hj (by omega)⟩, Below.refl _ _⟩
  case round =>
    obtain ⟨k, o, us, hk, rfl, rfl, hG, HU, hb3⟩ := hrel
    obtain ⟨wo, rfl⟩ : ∃ wo, wo = wr := ⟨wr, rfl⟩
    have HG := hidden hG
    have HB := hidden hb3
    obtain ⟨b0, b1, b2, b3, b4⟩ := HBX.out wo HB.out
    have HBW := hidden (show Below w.heap.size w wo from HBA.out.trans (hb3.mono (by omega)))
    clear hG hb3
    by_cases hlt : k < m
    · obtain ⟨ba, oa, rfl, _, c0⟩ := HA.out wo HBW.out k hlt
      obtain ⟨p, hp, hps⟩ := HL.out k hlt
      have HFK := hidden (HFM.out k hlt p hp)
      obtain ⟨bf, of, a', c', rfl, hbf, d0, hrz⟩ := HFO.out wo HBW.out p hps
      obtain ⟨bf2, of2, a'2, c'2, e1, hbf2, d02, hrz2⟩ := HFO.out w (Below.refl _ _) p hps
      have HRZ := hidden (show RdZ w.heap.size w (.slice a' (N.fol.getD p []).length c') (N.fol.getD p []) from by
        simp only [Option.some.injEq, Addr.mk.injEq, and_true] at e1
        obtain ⟨rfl, rfl⟩ := e1
        have e5 := (HBW.out.cell (p := ⟨bf, of + p, none⟩) hbf2).trans d02
        rw [d0] at e5
        simp only [Option.some.injEq, Value.slice.injEq] at e5
        obtain ⟨rfl, _, rfl⟩ := e5
        exact hrz2)
      rw [hp] at c0
      have hpi : (p : Int) < (nf : Int) := by omega
      have hlt' := hlt
      have hkb : IntKind.i64.wrap ((k : Int) + 1) = (k : Int) + 1 := by rw [IntKind.wrap_i64]; omega
      obtain ⟨lp, hlp⟩ : ∃ lp, lp = (N.fol.getD p []).length := ⟨_, rfl⟩
      rw [← hlp] at d0 HRZ
      have HUS := hidden HU.out.1
      have HAA := hidden (HG.out.kept ((Below.refl wo.heap.size wo).alloc (Nat.le_refl _) (.cells #[.slice a' lp c'] 30)))
      have HBB := hidden (HB.out.alloc (by have := HB.out.size; have := HS0.out; omega) (.cells #[.slice a' lp c'] 30))
      have HBL := hidden (show w.heap.size + 1 ≤ (wo.alloc (.cells #[.slice a' lp c'] 30)).heap.size by have := HB.out.size; have := HS0.out; simp; omega)
      have HU2 := hidden (show (us ++ [Value.slice a' lp c']).length = k + 1 ∧ (folsOf N (l.take (k + 1))).length = k + 1 ∧ ∀ j, j < k + 1 → RdZ w.heap.size w ((us ++ [Value.slice a' lp c']).getD j (.slice none 0 0)) ((folsOf N (l.take (k + 1))).getD j []) from by
        obtain ⟨h1, h2, h3⟩ := HU.out
        rw [HFK.out]
        refine ⟨by simp [h1], by simp [h2], fun j hj => ?_⟩
        by_cases e : j < k
        · have := h3 j e
          rw [List.getD_eq_getElem?_getD, List.getD_eq_getElem?_getD, List.getElem?_append_left (by omega), List.getElem?_append_left (by omega)]
          rw [List.getD_eq_getElem?_getD, List.getD_eq_getElem?_getD] at this
          exact this
        · obtain rfl : j = k := by omega
          rw [List.getD_eq_getElem?_getD, List.getD_eq_getElem?_getD, List.getElem?_append_right (by omega), List.getElem?_append_right (by omega), h1, h2]
          simpa using HRZ.out)
      clear hp hrz hrz2 e1 d02 hlp
      go_wp2_with (at_builtin; refine app_v rfl _ _ rfl rfl rfl HAA.out rfl (heap_alloc_new wo _) HUS.out (by omega) HBL.out ?_; intro g' c3 w3 hr3 hg3 hb4; have HR3 := hidden hr3; have HB3 := hidden (HBB.out.trans hb4); clear hr3 hg3 hb4)
      go_roundw
      case rel => exact ⟨k + 1, _, us ++ [Value.slice a' lp c'], by omega, rfl, by go_num, HR3.out, HU2, HB3.out⟩
      case measure => simp [intOf]; omega
    · obtain rfl : k = m := by omega
      have hdk : decide ((k : Int) < (k : Int)) = false := by simp
      have HRF := hidden (show RdZZ wo.heap.size wo o (folsOf N l) from by
        obtain ⟨h1, h2, h3⟩ := HU.out
        rw [HFE.out] at h2 h3
        exact HG.out.reads (by omega) (fun i hi => (h3 i (by omega)).below HBW.out HBW.out.size))
      obtain ⟨ao, co, rfl⟩ := HG.out.form
      have HJ := hidden (fun W (hb : Below wo.heap.size wo W) => joined_calls (n := ns) (HRF.out.below hb hb.size) hn)
      obtain ⟨lo, hlo⟩ : ∃ lo, lo = us.length := ⟨_, rfl⟩
      rw [← hlo] at HJ ⊢
      have HLB := hidden (show w.heap.size + 1 ≤ wo.heap.size by have := HB.out.size; have := HS0.out; omega)
      have HWW := hidden (show w.heap.size < wo.heap.size by have := HLB.out; omega)
      clear hlo hdk
      go_wp2
      go_region_with (first
        | (go_at_call 71; refine (HJ.out _ (below_refl_drew _)).mono ?_; rintro e w5 ⟨u5, rfl, hr5, hb5⟩; have HR5 := hidden hr5.reads; have HB5 := hidden (show Below wo.heap.size wo w5 from (below_refl_drew _).trans hb5); obtain ⟨a5, c5, rfl⟩ := hr5.form; obtain ⟨x0, x1, x2, x3, x4⟩ := HBX.out w5 (below_then HB.out (by have := HLB.out; omega) HB5.out); clear hr5 hb5)
        | (go_at_call 68; refine (HHV.out w5 (below_after HBW.out HB5.out) _ _ HR5.out).mono ?_; rintro e w6 ⟨u6, rfl, hr6, hb6⟩; have HR6 := hidden hr6; have HB6 := hidden (below_after HB5.out hb6); clear hr6 hb6))
      all_goals
        go_wp2
        go_ret
        exact ⟨_, rfl, HR6.out.lower (by have := HB5.out.size; have := HLB.out; omega), below_after HBW.out HB6.out⟩
end Go.Proofs.YtbokhofdgdcpdaaDoor
