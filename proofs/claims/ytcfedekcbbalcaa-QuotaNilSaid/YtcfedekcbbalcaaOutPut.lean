/- Contracts of the methods of an Out that cut and append: Cut, Put, and what they call. -/
import Derived.Test.YtcfedekcbbalcaaOutSmall
import Derived.Lib.AppendStr
namespace Go.Proofs.Ytcfedekcbbalcaa
open Go.RowKit Go.Lib

theorem infoByte : (Try.prog.info? 5).map (fun i => (i.zero, i.size, i.bytes)) = some (some (.int .u8 0), 1, 1) := by kernel_rfl
/-- what a call leaves that turns the Out -/
def Turns (B o : Nat) (w : World) (s : ByteArray) (r : Nat) (w' : World) : Prop := (∃ v, OutAt w' B o s r v) ∧ Save B o w w'
theorem Turns.keeps {B o : Nat} {w : World} {s : ByteArray} {r : Nat} {v : Value} (h : OutAt w B o s r v) : Turns B o w s r w := ⟨⟨v, h⟩, Save.refl _ _ _⟩
theorem Turns.after {B o : Nat} {w w1 w2 : World} {s : ByteArray} {r : Nat} (hs : Save B o w w1) (h : Turns B o w1 s r w2) : Turns B o w s r w2 := ⟨h.1, hs.trans h.2⟩

theorem shorten_calls {w : World} {B o : Nat} {s : ByteArray} {r : Nat} {v : Value} (h : OutAt w B o s r v) (n : Nat) (hn : n ≤ s.size) :
    Calls Try.prog 25 #[.pointer (some ⟨o, 0, none⟩), .int .i64 n] w fun e w' => e = .returned (.tuple #[]) ∧ Turns B o w (s.extract 0 n) r w' := by
  obtain ⟨a, c, rfl, hc, hc2⟩ := h.form
  have h0 := h.cell0
  have hf := h.frozen0
  have hle := h.le
  have htop := h.top
  have H := hidden (h.turned (s' := s.extract 0 n) (v' := .slice a n c) (grown_refl w _) (by rw [strCells_take, size_take s n hn]; exact own_take h.own hn) (by rw [size_take s n hn]; omega))
  clear h
  go_enter Try.func25, Try.ntmps25
  go_wp2
  go_end0
  exact ⟨rfl, ⟨_, H.out.1⟩, H.out.2⟩
theorem cut_none (n : Int) (w : World) : Calls Try.prog 14 #[.pointer none, .int .i64 n] w fun e w' => e = .returned (.int .i64 24) ∧ w = w' := by
  go_enter Try.func14, Try.ntmps14
  go_wp2
  go_ret
  exact ⟨rfl, rfl⟩
theorem cut_low {w : World} {B o : Nat} {s : ByteArray} {r : Nat} {v : Value} (h : OutAt w B o s r v) (n : Int) (hn : n < 0) :
    Calls Try.prog 14 #[.pointer (some ⟨o, 0, none⟩), .int .i64 n] w fun e w' => e = .returned (.int .i64 2) ∧ Turns B o w s r w' := by
  have H := hidden (Turns.keeps h)
  have hd : decide (n < 0) = true := by simp; omega
  clear h
  go_enter Try.func14, Try.ntmps14
  go_wp2
  go_ret
  exact ⟨rfl, H.out⟩
theorem cut_high {w : World} {B o : Nat} {s : ByteArray} {r : Nat} {v : Value} (h : OutAt w B o s r v) (n : Int) (hn : (s.size : Int) < n) :
    Calls Try.prog 14 #[.pointer (some ⟨o, 0, none⟩), .int .i64 n] w fun e w' => e = .returned (.int .i64 2) ∧ Turns B o w s r w' := by
  have H := hidden (Turns.keeps h)
  have hd : decide (n < 0) = false := by simp; omega
  have HS := hidden (size_calls h)
  clear h
  go_enter Try.func14, Try.ntmps14
  go_wp2_with fail
  refine HS.out.mono ?_
  rintro e w' ⟨rfl, rfl⟩
  go_wp2
  go_ret
  exact ⟨rfl, H.out⟩
theorem cut_calls {w : World} {B o : Nat} {s : ByteArray} {r : Nat} {v : Value} (h : OutAt w B o s r v) (n : Nat) (hn : n ≤ s.size) :
    Calls Try.prog 14 #[.pointer (some ⟨o, 0, none⟩), .int .i64 n] w fun e w' => e = .returned (.int .i64 0) ∧ Turns B o w (s.extract 0 n) r w' := by
  have hd : decide ((n : Int) < 0) = false := by simp
  have HS := hidden (size_calls h)
  have HC := hidden (shorten_calls h n hn)
  clear h
  go_enter Try.func14, Try.ntmps14
  go_wp2_with fail
  refine HS.out.mono ?_
  rintro e w' ⟨rfl, rfl⟩
  go_wp2_with fail
  refine HC.out.mono ?_
  rintro e w' ⟨rfl, ht⟩
  have HT := hidden ht
  clear ht
  go_wp2
  go_ret
  exact ⟨rfl, HT.out⟩

theorem add_calls {w : World} {B o : Nat} {s : ByteArray} {r : Nat} {v : Value} (h : OutAt w B o s r v) (t : ByteArray) (ht : s.size + t.size ≤ r) :
    Calls Try.prog 22 #[.pointer (some ⟨o, 0, none⟩), .string t] w fun e w' => e = .returned (.tuple #[]) ∧ Turns B o w (s ++ t) r w' := by
  have h0 := h.cell0
  have htop := h.top
  have H := hidden h
  obtain ⟨i0, hi, hz0, hz1, hz2⟩ := info_parts infoByte
  clear h
  go_enter Try.func22, Try.ntmps22
  go_wp2_with (at_builtin; refine wpList_append_own_string _ rfl _ _ 52 9 rfl B 5 i0 Try.underlying52 Try.underlying9 hi hz0 hz1 hz2 _ _ _ rfl H.out.own t rfl (by unfold maxLen; omega) (by omega) H.out.low ?_)
  intro v' w1 hown hg _
  have hsz : (s ++ t).size = s.size + t.size := ByteArray.size_append
  rw [← strCells_add, ← hsz] at hown
  have T := hidden (H.out.turned hg hown (by omega))
  have hb1 : w1.heap[o]? = w.heap[o]? := hg.block o H.out.lt (fun e => row_ne H.out.own H.out.blk e.symm)
  have hf : w1.frozen? ⟨o, 0, none⟩ = false := frozen_of_row w1 o 0 _ _ (hb1.trans H.out.blk)
  have hc : w1.cell? ⟨o, 0, none⟩ = some v := cell_of_row w1 o 0 _ _ _ (hb1.trans H.out.blk)
  clear hown hg hb1 hz0 hz1 hz2 hi hsz
  obtain ⟨a', c', rfl, _, _⟩ := T.out.1.form
  go_wp2
  go_end0
  have h2 := T.out
  simp only [ByteArray.size_append] at h2
  exact ⟨rfl, ⟨_, h2.1⟩, h2.2⟩

set_option maxRecDepth 100000 in
theorem fit_calls {C : Nat → Prop} {w : World} {a : Option Addr} {len cap : Nat} {ss : List ByteArray} (room : Nat) (hr : room ≤ 1073741824) (h : Strs C w a len ss) (hl : len ≤ cap) (hcap : cap ≤ maxLen) :
    Calls Try.prog 21 #[.int .i64 room, .slice a len cap] w fun e w' => e = .returned (.bool (decide (total ss ≤ room))) ∧ w = w' := by
  have hmax : maxLen = 9223372036854775807 := rfl
  have H := hidden h
  have HM := hidden hmax
  rw [hmax] at hcap
  clear h hmax
  go_enter Try.func21, Try.ntmps21
  go_wp2
  go_loop [0, 9] (fun q i => ∃ k m : Nat, k ≤ len ∧ i = .int .i64 k ∧ q = .int .i64 m ∧ m + total (ss.take k) = room) (fun _ i => len - (intOf i).toNat)
  case atStart => exact ⟨0, room, by omega, rfl, rfl, by simp [total]⟩
  case round =>
    obtain ⟨k, m, hk, rfl, rfl, hm⟩ := hrel
    have hmr : m ≤ room := by omega
    have HT := hidden hm
    clear hm
    by_cases hlt : k < len
    · obtain ⟨b, off, rfl, _, hc⟩ := H.out.2 (by omega)
      have hck := hc k hlt
      have ht := hidden (total_take ss k (by rw [H.out.1]; exact hlt))
      clear hc
      generalize ss.getD k ByteArray.empty = t at hck ht
      have hlk : decide ((k : Int) < len) = true := by simp; omega
      by_cases hq : m < t.size
      · have hd : decide ((m : Int) < t.size) = true := by simp; omega
        go_wp2
        go_ret
        refine ⟨ret_b ?_, rfl⟩
        have h1 := total_le ss (k + 1)
        rw [ht.out] at h1
        have h2 := HT.out
        symm
        simp
        omega
      · have hd : decide ((m : Int) < t.size) = false := by simp; omega
        go_wp2
        refine ⟨⟨k + 1, m - t.size, by omega, by go_num, ?_, ?_⟩, ?_⟩
        · go_num
        · have h1 := ht.out
          have h2 := HT.out
          omega
        · simp [intOf]; omega
    · have hlk : decide ((k : Int) < len) = false := by simp; omega
      go_wp2
      go_ret
      refine ⟨ret_b ?_, rfl⟩
      have h2 := HT.out
      rw [List.take_of_length_le (by rw [H.out.1]; omega)] at h2
      symm
      simp
      omega

theorem put_none (a : Option Addr) (len cap : Nat) (w : World) : Calls Try.prog 10 #[.pointer none, .slice a len cap] w fun e w' => e = .returned (.int .i64 24) ∧ w = w' := by
  go_enter Try.func10, Try.ntmps10
  go_wp2
  go_ret
  exact ⟨rfl, rfl⟩
theorem left_nat {w : World} {B o : Nat} {s : ByteArray} {r : Nat} {v : Value} (h : OutAt w B o s r v) (m : Nat) (hm : s.size + m = r) :
    Calls Try.prog 20 #[.pointer (some ⟨o, 0, none⟩)] w fun e w' => e = .returned (.int .i64 m) ∧ Below w.heap.size w w' :=
  (left_calls h).mono fun e w' ⟨he, hb⟩ => ⟨he.trans (ret_i (by omega)), hb⟩
theorem put_full {w : World} {B o : Nat} {s : ByteArray} {r : Nat} {v : Value} {a : Option Addr} {len cap : Nat} {ss : List ByteArray} (h : OutAt w B o s r v) (hs : Strs (Kin B o w) w a len ss) (hl : len ≤ cap) (hcap : cap ≤ maxLen) (hf : r < s.size + total ss) :
    Calls Try.prog 10 #[.pointer (some ⟨o, 0, none⟩), .slice a len cap] w fun e w' => e = .returned (.int .i64 6) ∧ Turns B o w s r w' := by
  obtain ⟨m, hm⟩ : ∃ m, s.size + m = r := ⟨r - s.size, by have := h.le; omega⟩
  have HL := hidden (left_nat h m hm)
  have H := hidden h
  have HS := hidden hs
  have HF := hidden (fun w' => fit_calls (C := fun _ => True) (w := w') (a := a) (len := len) (cap := cap) (ss := ss) m (by have := h.top; omega))
  have hd : decide (total ss ≤ m) = false := by simp; omega
  rw [hd] at HF
  clear h hs hd
  go_enter Try.func10, Try.ntmps10
  go_wp2_with fail
  refine HL.out.mono ?_
  rintro e w1 ⟨rfl, hb1⟩
  have hs1 : Strs (fun _ => True) w1 a len ss := ⟨HS.out.1, fun hp => by
    obtain ⟨b, off, e, hk, hc⟩ := HS.out.2 hp
    exact ⟨b, off, e, trivial, fun i hi => (hb1.cell (p := ⟨b, off + i, none⟩) hk.1).trans (hc i hi)⟩⟩
  have HF1 := hidden (HF.out w1 hs1 hl hcap)
  have T := hidden (Turns.after (Save.of_below hb1) (Turns.keeps (H.out.below hb1)))
  clear hs1 hb1
  go_wp2_with fail
  refine HF1.out.mono ?_
  rintro e w2 ⟨rfl, rfl⟩
  go_wp2
  go_ret
  exact ⟨rfl, T.out⟩
set_option maxRecDepth 100000 in
theorem put_calls {w : World} {B o : Nat} {s : ByteArray} {r : Nat} {v : Value} {a : Option Addr} {len cap : Nat} {ss : List ByteArray} (h : OutAt w B o s r v) (hs : Strs (Kin B o w) w a len ss) (hl : len ≤ cap) (hcap : cap ≤ maxLen) (hf : s.size + total ss ≤ r) :
    Calls Try.prog 10 #[.pointer (some ⟨o, 0, none⟩), .slice a len cap] w fun e w' => e = .returned (.int .i64 0) ∧ Turns B o w (s ++ joinB ss) r w' := by
  obtain ⟨m, hm⟩ : ∃ m, s.size + m = r := ⟨r - s.size, by have := h.le; omega⟩
  have HL := hidden (left_nat h m hm)
  have H := hidden h
  have HS := hidden hs
  have hmax : maxLen = 9223372036854775807 := rfl
  have HF := hidden (fun w' => fit_calls (C := fun _ => True) (w := w') (a := a) (len := len) (cap := cap) (ss := ss) m (by have := h.top; omega))
  have hd : decide (total ss ≤ m) = true := by simp; omega
  rw [hd] at HF
  have HC := hidden hcap
  rw [hmax] at hcap
  clear h hs hd hmax
  go_enter Try.func10, Try.ntmps10
  go_wp2_with fail
  refine HL.out.mono ?_
  rintro e w1 ⟨rfl, hb1⟩
  have hs1 : Strs (fun _ => True) w1 a len ss := ⟨HS.out.1, fun hp => by
    obtain ⟨b, off, e, hk, hc⟩ := HS.out.2 hp
    exact ⟨b, off, e, trivial, fun i hi => (hb1.cell (p := ⟨b, off + i, none⟩) hk.1).trans (hc i hi)⟩⟩
  have HF1 := hidden (HF.out w1 hs1 hl HC.out)
  have T := hidden (Turns.after (Save.of_below (B := B) (o := o) hb1) (Turns.keeps (H.out.below hb1)))
  clear hs1 hb1
  go_wp2_with fail
  refine HF1.out.mono ?_
  rintro e w2 ⟨rfl, rfl⟩
  go_wp2
  go_loopw [18] (fun i wr => ∃ k : Nat, k ≤ len ∧ i = .int .i64 k ∧ Turns B o w (s ++ joinB (ss.take k)) r wr) (fun i _ => len - (intOf i).toNat)
  case atStart =>
    refine ⟨0, by omega, rfl, ?_⟩
    have := T.out
    rw [List.take_zero, joinB, bytes_nil]
    exact this
  case round =>
    obtain ⟨k, hk, rfl, ⟨v1, ho⟩, hsv⟩ := hrel
    have HO := hidden ho
    have HV := hidden hsv
    clear ho hsv
    by_cases hlt : k < len
    · obtain ⟨b, off, rfl, hkin, hc⟩ := HS.out.2 (by omega)
      have hck := (HV.out.cell (p := ⟨b, off + k, none⟩) hkin).trans (hc k hlt)
      have hj := hidden (joinB_take ss k (by rw [HS.out.1]; exact hlt))
      have ht := total_take ss k (by rw [HS.out.1]; exact hlt)
      have ht2 := total_le ss (k + 1)
      have hsz : (s ++ joinB (ss.take k)).size = s.size + total (ss.take k) := by rw [ByteArray.size_append, joinB_size]
      have HA := hidden (add_calls HO.out (ss.getD k ByteArray.empty) (by omega))
      have hlk : decide ((k : Int) < len) = true := by simp; omega
      clear hc hkin ht ht2 hsz
      generalize ss.getD k ByteArray.empty = t at hck hj HA
      go_wp2_with fail
      refine HA.out.mono ?_
      rintro e w3 ⟨rfl, ht⟩
      have R := hidden (Turns.after HV.out ht)
      clear ht
      go_wp2
      go_roundw
      case rel =>
        refine ⟨k + 1, by omega, by go_num, ?_⟩
        have := R.out
        rw [bytes_assoc, ← hj.out] at this
        exact this
      case measure => simp [intOf]; omega
    · have hlk : decide ((k : Int) < len) = false := by simp; omega
      go_wp2
      go_ret
      refine ⟨rfl, ⟨v1, ?_⟩, HV.out⟩
      have := HO.out
      rw [List.take_of_length_le (by rw [HS.out.1]; omega)] at this
      exact this
end Go.Proofs.Ytcfedekcbbalcaa
