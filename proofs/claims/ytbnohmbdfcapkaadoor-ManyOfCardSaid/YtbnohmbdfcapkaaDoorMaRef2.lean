/- Contracts of the reference's Of, Union and Kept. -/
import Derived.Test.YtbnohmbdfcapkaaDoorMaRef
namespace Go.Proofs.YtbnohmbdfcapkaaDoor
open Go.RowKit Go.Lib Go.Joins

theorem MkZ.put {w wr : World} {l : List Int} {v : Value} {n : Int} (h : MkZ w l v wr) (hl : l.length ≤ 90000) :
    Calls Tryd.prog 16 #[v, .int .i64 n] wr fun e w' => ∃ u, e = .returned u ∧ MkZ w (putV l n) u w' := by
  refine (rput_calls wr v l n h.1.reads hl).mono ?_
  rintro e w' ⟨u, rfl, hu, hb⟩
  refine ⟨u, rfl, ?_, below_then h.2 h.2.size hb⟩
  rcases hu with ⟨rfl, hm⟩ | ⟨hm, hr⟩
  · rw [show putV l n = l from if_pos hm]
    exact h.1.kept hb
  · exact hr.lower h.2.size
set_option maxHeartbeats 4000000 in
set_option maxRecDepth 100000 in
theorem rof_calls (w : World) (v : Value) (l : List Int) (h : RdZ w.heap.size w v l) (hl : l.length ≤ 1000) : Calls Tryd.prog 7 #[v] w (RetZ w (ofV l)) := by
  obtain ⟨a, cap, rfl, h1, h2, _, h4⟩ := h
  have H4 := hidden h4
  have HPT := hidden (fun k hk => puts_take [] l k hk)
  have HPL := hidden (fun k => puts_len (l.take k) [])
  have HE := hidden (show putsV [] (l.take l.length) = ofV l by rw [List.take_of_length_le (Nat.le_refl _)]; rfl)
  obtain ⟨m, hmm⟩ : ∃ m, m = l.length := ⟨_, rfl⟩
  rw [← hmm] at H4 HPT HE h1 hl ⊢
  unfold maxLen at h2
  clear h4 hmm
  go_enter Tryd.func7, Tryd.ntmps7
  go_wp2
  go_loopw [3, 4] (fun ov i wr => ∃ (k : Nat) (o : Value), k ≤ m ∧ i = .int .i64 k ∧ o = ov ∧ MkZ w (putsV [] (l.take k)) o wr) (fun _ i _ => m - (intOf i).toNat)
  case atStart => exact ⟨0, _, by omega, rfl, rfl, ⟨RowZ.lit w _ rfl _ rfl, (Below.refl _ _).alloc (Nat.le_refl _) _⟩⟩
  case round =>
    obtain ⟨k, o, hk, rfl, rfl, hr⟩ := hrel
    have HR := hidden hr
    obtain ⟨av, cv, rfl⟩ := hr.1.form
    have hlen := HPL.out k
    clear hr
    by_cases hlt : k < m
    · obtain ⟨b, off, rfl, hbB, hc⟩ := H4.out (by omega)
      have c1 := (HR.out.2.cell (p := ⟨b, off + k, none⟩) hbB).trans (hc k hlt)
      have HT := hidden (HPT.out k hlt)
      have hl2 : (putsV [] (l.take k)).length ≤ 90000 := by
        rw [List.length_take] at hlen
        simp only [List.length_nil] at hlen
        omega
      have HP := hidden (fun n => MkZ.put (n := n) HR.out hl2)
      obtain ⟨q, hq⟩ : ∃ q, q = (putsV [] (l.take k)).length := ⟨_, rfl⟩
      rw [← hq] at HP ⊢
      generalize l.getD k 0 = x at *
      clear hc hlen hl2 hq
      go_wp2_with fail
      refine (HP.out x).mono ?_
      rintro e w2 ⟨u, rfl, hu⟩
      have HU := hidden (show MkZ w (putsV [] (l.take (k + 1))) u w2 from by rw [HT.out]; exact hu)
      clear hu
      go_wp2
      go_roundw
      case rel => exact ⟨k + 1, _, by omega, by go_num, rfl, HU.out⟩
      case measure => simp [intOf]; omega
    · obtain rfl : k = m := by omega
      have HF := hidden (show RowZ wr w.heap.size (.slice av (putsV [] (l.take k)).length cv) (ofV l) ∧ Below w.heap.size w wr from by rw [← HE.out]; exact HR.out)
      generalize (putsV [] (l.take k)).length = q at *
      clear hlen
      go_wp2
      go_ret
      exact ⟨_, rfl, HF.out.1, HF.out.2⟩
end Go.Proofs.YtbnohmbdfcapkaaDoor
