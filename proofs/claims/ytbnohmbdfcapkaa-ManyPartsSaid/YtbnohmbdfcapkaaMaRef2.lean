/- Contracts of the reference's Of, Union and Kept. -/
import Derived.Test.YtbnohmbdfcapkaaMaRef
namespace Go.Proofs.Ytbnohmbdfcapkaa
open Go.RowKit Go.Lib Go.Joins

theorem MkZ.put {w wr : World} {l : List Int} {v : Value} {n : Int} (h : MkZ w l v wr) (hl : l.length ≤ 90000) :
    Calls Try.prog 23 #[v, .int .i64 n] wr fun e w' => ∃ u, e = .returned u ∧ MkZ w (putV l n) u w' := by
  refine (rput_calls wr v l n h.1.reads hl).mono ?_
  rintro e w' ⟨u, rfl, hu, hb⟩
  refine ⟨u, rfl, ?_, below_then h.2 h.2.size hb⟩
  rcases hu with ⟨rfl, hm⟩ | ⟨hm, hr⟩
  · rw [show putV l n = l from if_pos hm]
    exact h.1.kept hb
  · exact hr.lower h.2.size
set_option maxHeartbeats 4000000 in
set_option maxRecDepth 100000 in
theorem rof_calls (w : World) (v : Value) (l : List Int) (h : RdZ w.heap.size w v l) (hl : l.length ≤ 1000) : Calls Try.prog 22 #[v] w (RetZ w (ofV l)) := by
  obtain ⟨a, cap, rfl, h1, h2, _, h4⟩ := h
  have H4 := hidden h4
  have HPT := hidden (fun k hk => puts_take [] l k hk)
  have HPL := hidden (fun k => puts_len (l.take k) [])
  have HE := hidden (show putsV [] (l.take l.length) = ofV l by rw [List.take_of_length_le (Nat.le_refl _)]; rfl)
  obtain ⟨m, hmm⟩ : ∃ m, m = l.length := ⟨_, rfl⟩
  rw [← hmm] at H4 HPT HE h1 hl ⊢
  unfold maxLen at h2
  clear h4 hmm
  go_enter Try.func22, Try.ntmps22
  go_wp2
  go_loopw [3, 4] (fun ov i wr => ∃ (k : Nat) (o : Value), k ≤ m ∧ i = .int .i64 k ∧ o = ov ∧ MkZ w (putsV [] (l.take k)) o wr) (fun _ i _ => m - (intOf i).toNat)
  case atStart => exact ⟨0, _, by omega, rfl, rfl, ⟨RowZ.lit w _ rfl _ rfl, (Below.refl _ _).alloc (Nat.le_refl _) _⟩⟩
  case round =>
    obtain ⟨k, o, hk, rfl, rfl, hr⟩ := hrel
    have HR := hidden hr
    obtain ⟨av, cv, rfl⟩ := hr.1.form
    have hlen := HPL.out k
    clear hr
    by_cases hlt : k < m
    · obtain ⟨b, off, rfl, hbB, hc⟩ := H4.out (by omega)
      have c1 := (HR.out.2.cell (p := ⟨b, off + k, none⟩) hbB).trans (hc k hlt)
      have HT := hidden (HPT.out k hlt)
      have hl2 : (putsV [] (l.take k)).length ≤ 90000 := by
        rw [List.length_take] at hlen
        simp only [List.length_nil] at hlen
        omega
      have HP := hidden (fun n => MkZ.put (n := n) HR.out hl2)
      obtain ⟨q, hq⟩ : ∃ q, q = (putsV [] (l.take k)).length := ⟨_, rfl⟩
      rw [← hq] at HP ⊢
      generalize l.getD k 0 = x at *
      clear hc hlen hl2 hq
      go_wp2_with fail
      refine (HP.out x).mono ?_
      rintro e w2 ⟨u, rfl, hu⟩
      have HU := hidden (show MkZ w (putsV [] (l.take (k + 1))) u w2 from by rw [HT.out]; exact hu)
      clear hu
      go_wp2
      go_roundw
      case rel => exact ⟨k + 1, _, by omega, by go_num, rfl, HU.out⟩
      case measure => simp [intOf]; omega
    · obtain rfl : k = m := by omega
      have HF := hidden (show RowZ wr w.heap.size (.slice av (putsV [] (l.take k)).length cv) (ofV l) ∧ Below w.heap.size w wr from by rw [← HE.out]; exact HR.out)
      generalize (putsV [] (l.take k)).length = q at *
      clear hlen
      go_wp2
      go_ret
      exact ⟨_, rfl, HF.out.1, HF.out.2⟩
set_option maxHeartbeats 4000000 in
set_option maxRecDepth 100000 in
theorem runion_calls (w : World) (va v : Value) (s l : List Int) (ha : RdZ w.heap.size w va s) (h : RdZ w.heap.size w v l) (hs : s.length ≤ 1000) (hl : l.length ≤ 1000) : Calls Try.prog 11 #[va, v] w (RetZ w (putsV (ofV s) l)) := by
  have HO := hidden (rof_calls w va s ha hs)
  have hol := puts_len s []
  obtain ⟨a0, c0, rfl⟩ := ha.form
  obtain ⟨a, cap, rfl, h1, h2, _, h4⟩ := h
  have H4 := hidden h4
  have HPT := hidden (fun k hk => puts_take (ofV s) l k hk)
  have HPL := hidden (fun k => puts_len (l.take k) (ofV s))
  have HE := hidden (show putsV (ofV s) (l.take l.length) = putsV (ofV s) l by rw [List.take_of_length_le (Nat.le_refl _)])
  obtain ⟨m, hmm⟩ : ∃ m, m = l.length := ⟨_, rfl⟩
  obtain ⟨ms, hms⟩ : ∃ m, m = s.length := ⟨_, rfl⟩
  rw [← hmm] at H4 HPT HE h1 hl ⊢
  rw [← hms] at HO ⊢
  have hol2 : (ofV s).length ≤ 1000 := by
    unfold ofV
    simp only [List.length_nil] at hol
    omega
  unfold maxLen at h2
  clear h4 hmm ha hms hol hs
  go_enter Try.func11, Try.ntmps11
  go_wp2_with fail
  refine HO.out.mono ?_
  rintro e w1 ⟨o1, rfl, hr1, hb1⟩
  have HS := hidden (show MkZ w (putsV (ofV s) (l.take 0)) o1 w1 from ⟨hr1, hb1⟩)
  obtain ⟨ao, co, rfl⟩ := hr1.form
  generalize (ofV s).length = q0 at *
  clear hr1 hb1
  go_wp2
  go_loopw [5, 6] (fun ov i wr => ∃ (k : Nat) (o : Value), k ≤ m ∧ i = .int .i64 k ∧ o = ov ∧ MkZ w (putsV (ofV s) (l.take k)) o wr) (fun _ i _ => m - (intOf i).toNat)
  case atStart => exact ⟨0, _, by omega, rfl, rfl, HS.out⟩
  case round =>
    obtain ⟨k, o, hk, rfl, rfl, hr⟩ := hrel
    have HR := hidden hr
    obtain ⟨av, cv, rfl⟩ := hr.1.form
    have hlen := HPL.out k
    clear hr
    by_cases hlt : k < m
    · obtain ⟨b, off, rfl, hbB, hc⟩ := H4.out (by omega)
      have c1 := (HR.out.2.cell (p := ⟨b, off + k, none⟩) hbB).trans (hc k hlt)
      have HT := hidden (HPT.out k hlt)
      have hl2 : (putsV (ofV s) (l.take k)).length ≤ 90000 := by
        rw [List.length_take] at hlen
        omega
      have HP := hidden (fun n => MkZ.put (n := n) HR.out hl2)
      obtain ⟨q, hq⟩ : ∃ q, q = (putsV (ofV s) (l.take k)).length := ⟨_, rfl⟩
      rw [← hq] at HP ⊢
      generalize l.getD k 0 = x at *
      clear hc hlen hl2 hq
      go_wp2_with fail
      refine (HP.out x).mono ?_
      rintro e w2 ⟨u, rfl, hu⟩
      have HU := hidden (show MkZ w (putsV (ofV s) (l.take (k + 1))) u w2 from by rw [HT.out]; exact hu)
      clear hu
      go_wp2
      go_roundw
      case rel => exact ⟨k + 1, _, by omega, by go_num, rfl, HU.out⟩
      case measure => simp [intOf]; omega
    · obtain rfl : k = m := by omega
      have HF := hidden (show RowZ wr w.heap.size (.slice av (putsV (ofV s) (l.take k)).length cv) (putsV (ofV s) l) ∧ Below w.heap.size w wr from by rw [← HE.out]; exact HR.out)
      generalize (putsV (ofV s) (l.take k)).length = q at *
      clear hlen
      go_wp2
      go_ret
      exact ⟨_, rfl, HF.out.1, HF.out.2⟩
set_option maxHeartbeats 4000000 in
set_option maxRecDepth 100000 in
theorem rkept_calls (w : World) (v vb : Value) (l s : List Int) (c : Bool) (h : RdZ w.heap.size w v l) (hb : RdZ w.heap.size w vb s) (hl : l.length ≤ 1000) : Calls Try.prog 13 #[v, vb, .bool c] w (RetZ w (keptV l s c)) := by
  have HH := hidden (fun W (hW : Below w.heap.size w W) n => rhas_calls W vb s n (hb.later hW))
  obtain ⟨a0, c0, rfl⟩ := hb.form
  obtain ⟨a, cap, rfl, h1, h2, _, h4⟩ := h
  have H4 := hidden h4
  have HT := hidden (fun k (hk : k < l.length) => (show keptV (l.take (k + 1)) s c = keptV (l.take k) s c ++ (if decide (l.getD k 0 ∈ s) == c then [l.getD k 0] else []) from by
    unfold keptV
    rw [take_moreZ l k hk, List.filter_append]
    congr 1
    rw [List.filter_cons, List.filter_nil]))
  have HL := hidden (fun k => (show (keptV (l.take k) s c).length ≤ l.length from by
    have h1 := List.length_filter_le (fun x => decide (x ∈ s) == c) (l.take k)
    rw [List.length_take] at h1
    unfold keptV
    omega))
  have HE := hidden (show keptV (l.take l.length) s c = keptV l s c by rw [List.take_of_length_le (Nat.le_refl _)])
  obtain ⟨m, hmm⟩ : ∃ m, m = l.length := ⟨_, rfl⟩
  obtain ⟨ms, hms⟩ : ∃ m, m = s.length := ⟨_, rfl⟩
  rw [← hmm] at H4 HT HE HL h1 hl ⊢
  rw [← hms] at HH ⊢
  unfold maxLen at h2
  clear h4 hmm hb hms
  go_enter Try.func13, Try.ntmps13
  go_wp2
  go_loopw [7, 8] (fun ov i wr => ∃ (k : Nat) (o : Value), k ≤ m ∧ i = .int .i64 k ∧ o = ov ∧ MkZ w (keptV (l.take k) s c) o wr) (fun _ i _ => m - (intOf i).toNat)
  case atStart => exact ⟨0, _, by omega, rfl, rfl, ⟨RowZ.lit w _ rfl _ rfl, (Below.refl _ _).alloc (Nat.le_refl _) _⟩⟩
  case round =>
    obtain ⟨k, o, hk, rfl, rfl, hr⟩ := hrel
    have HR := hidden hr
    obtain ⟨av, cv, rfl⟩ := hr.1.form
    have hlen := HL.out k
    clear hr
    by_cases hlt : k < m
    · obtain ⟨b, off, rfl, hbB, hc⟩ := H4.out (by omega)
      have HC1 := hidden (fun W (hW : Below w.heap.size w W) => (hW.cell (p := ⟨b, off + k, none⟩) hbB).trans (hc k hlt))
      have c1 := HC1.out wr HR.out.2
      have HT1 := hidden (HT.out k hlt)
      obtain ⟨q, hq⟩ : ∃ q, q = (keptV (l.take k) s c).length := ⟨_, rfl⟩
      rw [← hq] at HR hlen ⊢
      have HQ := hidden hq.symm
      have HX := hidden (HH.out wr HR.out.2 (l.getD k 0))
      generalize l.getD k 0 = x at *
      obtain ⟨hv, hhv⟩ : ∃ hv, hv = decide (x ∈ s) := ⟨_, rfl⟩
      rw [← hhv] at HX HT1
      clear hc hq hhv
      cases heq : (hv == c) with
      | true =>
        rw [heq] at HT1
        go_wp2_with fail
        refine HX.out.mono ?_
        rintro e w2 ⟨rfl, hb2⟩
        have HR2 := hidden (HR.out.below hb2)
        have c2 := HC1.out w2 HR2.out.2
        clear hb2
        go_wp2_with (at_builtin; refine app_z rfl _ _ rfl rfl (HR2.out.1.kept ((Below.refl w2.heap.size w2).alloc (Nat.le_refl _) (.cells #[.int .i64 x] 3))) rfl (heap_alloc_new w2 _) HQ.out (by omega) (Nat.le_trans HR2.out.2.size (by simp)) ?_; intro g' c' w4 hr4 hg4 hb4)
        have HK4 := hidden (show MkZ w (keptV (l.take (k + 1)) s c) (.slice (some ⟨g', 0, none⟩) (q + 1) c') w4 from ⟨by rw [HT1.out]; exact hr4, (HR2.out.2.alloc HR2.out.2.size _).trans hb4⟩)
        clear hr4 hg4 hb4
        go_wp2
        go_roundw
        case rel => exact ⟨k + 1, _, by omega, by go_num, rfl, HK4.out⟩
        case measure => simp [intOf]; omega
      | false =>
        rw [heq] at HT1
        go_wp2_with fail
        refine HX.out.mono ?_
        rintro e w2 ⟨rfl, hb2⟩
        have HR2 := hidden (show MkZ w (keptV (l.take (k + 1)) s c) (.slice av q cv) w2 from by rw [HT1.out]; simpa using HR.out.below hb2)
        clear hb2
        go_wp2
        go_roundw
        case rel => exact ⟨k + 1, _, by omega, by go_num, rfl, HR2.out⟩
        case measure => simp [intOf]; omega
    · obtain rfl : k = m := by omega
      have HF := hidden (show RowZ wr w.heap.size (.slice av (keptV (l.take k) s c).length cv) (keptV l s c) ∧ Below w.heap.size w wr from by rw [← HE.out]; exact HR.out)
      generalize (keptV (l.take k) s c).length = q at *
      clear hlen
      go_wp2
      go_ret
      exact ⟨_, rfl, HF.out.1, HF.out.2⟩
end Go.Proofs.Ytbnohmbdfcapkaa
