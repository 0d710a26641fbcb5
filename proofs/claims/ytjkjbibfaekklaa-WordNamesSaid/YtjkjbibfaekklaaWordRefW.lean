/- Contracts of the reference's Words and Cut. -/
import Derived.Test.YtjkjbibfaekklaaWordRef
namespace Go.Proofs.Ytjkjbibfaekklaa
open Go.RowKit

theorem words_word1 {l acc : List UInt8} {outs : List (List UInt8)} {k : Nat} (h : outs ++ wordsGo (l.drop k) acc = wordsGo l []) (hk : k < l.length) (hc : l.getD k 0 = 32) (ha : acc ≠ []) :
    (outs ++ [acc]) ++ wordsGo (l.drop (k + 1)) [] = wordsGo l [] := by
  rw [drop_byte hk, hc, wordsGo, if_pos rfl, if_neg ha] at h
  rw [← h]
  simp
theorem words_blank {l : List UInt8} {outs : List (List UInt8)} {k : Nat} (h : outs ++ wordsGo (l.drop k) [] = wordsGo l []) (hk : k < l.length) (hc : l.getD k 0 = 32) :
    outs ++ wordsGo (l.drop (k + 1)) [] = wordsGo l [] := by
  rw [drop_byte hk, hc, wordsGo, if_pos rfl, if_pos rfl] at h
  exact h
theorem words_go {l acc : List UInt8} {outs : List (List UInt8)} {k : Nat} (h : outs ++ wordsGo (l.drop k) acc = wordsGo l []) (hk : k < l.length) (hc : l.getD k 0 ≠ 32) :
    outs ++ wordsGo (l.drop (k + 1)) (acc ++ [l.getD k 0]) = wordsGo l [] := by
  rw [drop_byte hk, wordsGo, if_neg hc] at h
  exact h
theorem words_end {l acc : List UInt8} {outs : List (List UInt8)} (h : outs ++ wordsGo (l.drop l.length) acc = wordsGo l []) : (acc ≠ [] → outs ++ [acc] = wordsGo l []) ∧ (acc = [] → outs = wordsGo l []) := by
  rw [List.drop_length, wordsGo] at h
  refine ⟨fun hb => ?_, fun hb => ?_⟩
  · rw [if_neg hb] at h
    exact h
  · rw [if_pos hb, List.append_nil] at h
    exact h
theorem extract_one (s : ByteArray) (k : Nat) (h : k < s.size) : s.extract k (k + 1) = txt [s.data.toList.getD k 0] := by
  rw [txt_extract, take_byte (by simpa using h), List.drop_append_of_le_length (by simp; omega)]
  rw [List.drop_eq_nil_of_le (by simp; omega)]
  rfl

set_option maxHeartbeats 2000000 in
set_option maxRecDepth 100000 in
theorem rwords_calls (s : ByteArray) (w : World) (hs : s.size ≤ 1000000) :
    Calls Try.prog 20 #[.string s] w (RetT w (wordsV s)) := by
  obtain ⟨i0, hi, hz0, hz1, hz2⟩ := info_parts infoStr
  have HI := hidden hi
  have HZ := hidden (And.intro hz0 (And.intro hz1 hz2))
  clear hi hz0 hz1 hz2
  have hL : s.data.toList.length = s.size := by simp
  have HL := hidden hL
  clear hL
  go_enter Try.func20, Try.ntmps20
  go_wp2
  go_loopw [3, 4, 5] (fun v b i wr => ∃ (k : Nat) (acc : List UInt8) (outs : List (List UInt8)), k ≤ s.size ∧ acc.length ≤ k ∧ i = .int .i64 k ∧ b = .string (txt acc) ∧ outs.length ≤ k ∧ outs ++ wordsGo (s.data.toList.drop k) acc = wordsGo s.data.toList [] ∧ RowT wr w.heap.size v (outs.map txt) ∧ Below w.heap.size w wr) (fun _ _ i _ => s.size - (intOf i).toNat)
  case atStart =>
    exact ⟨0, [], [], by omega, by simp, rfl, rfl, by simp, by simp, ⟨rfl, .inr ⟨_, 0, #[], rfl, Nat.le_refl _, heap_alloc_new _ _, Nat.le_refl _, by decide, rfl, rfl⟩⟩, by go_grown⟩
  case round =>
    obtain ⟨k, acc, outs, hk, hal, rfl, rfl, hol, hg, hR, hb⟩ := hrel
    have HB := hidden hb
    have HR := hidden hR
    have hws := hb.size
    have hts := hidden (txt_size acc)
    by_cases hlt : k < s.size
    · have hbyte := byte_is s k hlt
      by_cases hc : s.data.toList.getD k 0 = 32
      · have ht : ((s[k].toNat : Int) == 32) = true := by rw [hbyte, hc]; rfl
        have ht' : ((s[k].toNat : Int) != 32) = false := by rw [hbyte, hc]; rfl
        by_cases ha : (txt acc).size = 0
        · have he := empty_yes ha
          have he' := list_yes ha
          obtain rfl : acc = [] := data_yes ha
          have HN := hidden (words_blank hg (by rw [HL.out]; exact hlt) hc)
          clear hbyte hc hg hb hR ha
          go_wp2
          go_roundw
          case rel => exact ⟨k + 1, [], outs, by omega, by simp, by go_num, rfl, by omega, HN.out, HR.out, HB.out⟩
          case measure => simp [intOf]; omega
        · have he := empty_no ha
          have he' := list_no ha
          have hx : acc ≠ [] := data_no ha
          have HN := hidden (words_word1 hg (by rw [HL.out]; exact hlt) hc hx)
          have K3 := hidden (show (outs.map txt).length + 1 ≤ maxLen by unfold maxLen; simp; omega)
          have K4 := hidden (show ((outs.map txt).length + 1) * 16 ≤ 140737488355328 by simp; omega)
          have K5 := hidden (show w.heap.size ≤ (wr.alloc (.cells #[.string (txt acc)] 9)).heap.size by simp; omega)
          clear hbyte hc hg hb hR ha hx
          go_wp2_with (at_builtin; refine wpList_append_own _ rfl _ _ 22 rfl w.heap.size 9 i0 (.string ⟨#[]⟩) 1 16 Try.underlying22 HI.out HZ.out.1 HZ.out.2.1 HZ.out.2.2 rfl (by decide) _ _ _ rfl (World.ownsRow.alloc HR.out _) ⟨wr.heap.size, 0, none⟩ 1 1 [.string (txt acc)] rfl rfl (cell_one_new _ _ _) (by simp [Value.oneCell']) K3.out K4.out K5.out ?_)
          intro v5 w5 hown5 hgrow5 _
          have HO := hidden hown5
          have HB5 := hidden (append_below HB.out HR.out (Nat.le_refl _) hgrow5)
          clear hown5 hgrow5
          go_wp2
          go_roundw
          case rel => exact ⟨k + 1, [], _, by omega, by simp, by go_num, rfl, by simp; omega, HN.out, RowT.moreL (by have := HO.out; simpa using this), HB5.out⟩
          case measure => simp [intOf]; omega
      · have HN := hidden (words_go hg (by rw [HL.out]; exact hlt) hc)
        have ht : ((s[k].toNat : Int) == 32) = false := by
          rw [hbyte]
          generalize s.data.toList.getD k 0 = x at hc
          simp
          intro e
          exact hc (UInt8.toNat_inj.1 (by simp; omega))
        have ht' : ((s[k].toNat : Int) != 32) = true := by rw [bne, ht]; rfl
        have w2 : (0 : Int) ≤ (k : Int) + 1 := by omega
        have w3 : ((k : Int) + 1).toNat = k + 1 := by omega
        have w4 : (k : Int) + 1 ≤ (s.size : Int) := by omega
        have w5 : (k : Int) ≤ (k : Int) + 1 := by omega
        have he := hidden (extract_one s k hlt)
        have hsum : (txt acc).size + (s.extract k (k + 1)).size ≤ 2000000 := by rw [hts.out, he.out, txt_size]; simp; omega
        have hadd : Hid (txt acc ++ s.extract k (k + 1) = txt (acc ++ [s.data.toList.getD k 0])) := hidden (by rw [he.out, txt_add])
        clear hbyte hc hg hb hR
        go_wp2
        go_roundw
        case rel => exact ⟨k + 1, _, outs, by omega, by simp; omega, by go_num, by rw [hadd.out], by omega, HN.out, HR.out, HB.out⟩
        case measure => simp [intOf]; omega
    · obtain rfl : k = s.size := by omega
      have hE := words_end (by rw [HL.out]; exact hg)
      by_cases ha : (txt acc).size = 0
      · have he := empty_yes ha
        have he' := list_yes ha
        have HN := hidden (hE.2 (data_yes ha))
        clear hE hg hb hR ha
        go_wp2
        go_ret
        refine ⟨_, rfl, ?_, HB.out⟩
        unfold wordsV
        rw [← HN.out]
        exact HR.out.reads
      · have he := empty_no ha
        have he' := list_no ha
        have HN := hidden (hE.1 (data_no ha))
        have K3 := hidden (show (outs.map txt).length + 1 ≤ maxLen by unfold maxLen; simp; omega)
        have K4 := hidden (show ((outs.map txt).length + 1) * 16 ≤ 140737488355328 by simp; omega)
        have K5 := hidden (show w.heap.size ≤ (wr.alloc (.cells #[.string (txt acc)] 9)).heap.size by simp; omega)
        clear hE hg hb hR ha
        go_wp2_with (at_builtin; refine wpList_append_own _ rfl _ _ 22 rfl w.heap.size 9 i0 (.string ⟨#[]⟩) 1 16 Try.underlying22 HI.out HZ.out.1 HZ.out.2.1 HZ.out.2.2 rfl (by decide) _ _ _ rfl (World.ownsRow.alloc HR.out _) ⟨wr.heap.size, 0, none⟩ 1 1 [.string (txt acc)] rfl rfl (cell_one_new _ _ _) (by simp [Value.oneCell']) K3.out K4.out K5.out ?_)
        intro v5 w5 hown5 hgrow5 _
        have HO := hidden hown5
        have HB5 := hidden (append_below HB.out HR.out (Nat.le_refl _) hgrow5)
        clear hown5 hgrow5
        go_wp2
        go_ret
        refine ⟨_, rfl, ?_, HB5.out⟩
        unfold wordsV
        rw [← HN.out]
        exact RowT.reads (RowT.moreL (by have := HO.out; simpa using this))

theorem words_nil {s : ByteArray} (h : (cutW s.data.toList).1 = []) : wordsV s = [] ∧ cutV s = (⟨#[]⟩, ⟨#[]⟩) := by
  refine ⟨by rw [wordsV, words_first, if_pos h]; rfl, ?_⟩
  unfold cutV
  rw [cutW_nil _ h]
  rfl
theorem words_cons {s : ByteArray} (h : (cutW s.data.toList).1 ≠ []) : wordsV s = (cutV s).1 :: wordsV (cutV s).2 := by
  rw [wordsV, words_first, if_neg h]
  rfl
set_option maxHeartbeats 2000000 in
set_option maxRecDepth 100000 in
theorem rcut_calls (s : ByteArray) (w : World) (hs : s.size ≤ 1000000) :
    Calls Try.prog 15 #[.string s] w fun e w' => e = RetC s ∧ Below w.heap.size w w' := by
  have HW := hidden (fun W => rwords_calls s W hs)
  by_cases h0 : (cutW s.data.toList).1 = []
  · obtain ⟨h1, h2⟩ := words_nil h0
    rw [h1] at HW
    have H2 := hidden h2
    clear h0 h1 h2
    go_enter Try.func15, Try.ntmps15
    go_wp2_with fail
    refine (HW.out _).mono ?_
    rintro e w1 ⟨v, rfl, ⟨a, cap, rfl, _, _, _⟩, hb1⟩
    go_wp2
    go_ret2
    exact ⟨by unfold RetC; rw [H2.out]; rfl, hb1⟩
  · have h1 := words_cons h0
    rw [h1] at HW
    have hb0 := cutW_some h0
    have hsz := cutW_size s.data.toList
    have hL : s.data.toList.length = s.size := by simp
    rw [hL] at hb0 hsz
    have e1 : (cutV s).1 = txt (cutW s.data.toList).1 := rfl
    have e2 : (cutV s).2 = txt (s.data.toList.drop (blanks s.data.toList + (cutV s).1.size + 1)) := by rw [e1, txt_size, ← cutW_behind]; rfl
    have hsz : blanks s.data.toList + (cutV s).1.size ≤ s.size := by rw [e1, txt_size]; exact hsz
    have E2 := hidden e2
    have hbl := hidden (fun k hk => blank_before s.data.toList k hk)
    have hbn := hidden (blank_not s.data.toList)
    have HR : Hid (RetC s = .returned (.tuple #[.string (cutV s).1, .string (cutV s).2])) := hidden rfl
    clear h0 h1 e1 e2 hL
    rw [HR.out]
    clear HR
    generalize (cutV s).1 = x at *
    generalize (cutV s).2 = y at *
    generalize blanks s.data.toList = n at *
    go_enter Try.func15, Try.ntmps15
    go_wp2_with fail
    refine (HW.out _).mono ?_
    rintro e w1 ⟨v, rfl, ⟨a, cap, rfl, hcap, hcm, hS⟩, hb1⟩
    have HB1 := hidden hb1
    obtain ⟨b, off, rfl, hlb, hc⟩ := hS.2 (by simp)
    have hc0 : w1.cell? ⟨b, off, none⟩ = some (.string x) := hc 0 (by simp)
    have hlen : 0 < (x :: wordsV y).length := by simp
    unfold maxLen at hcm
    clear hb1 hc hS
    generalize (x :: wordsV y).length = m at *
    go_wp2
    go_loop [5] (fun i => ∃ k : Nat, k ≤ n ∧ i = .int .i64 k) (fun i => n - (intOf i).toNat)
    case atStart => exact ⟨0, by omega, rfl⟩
    case round =>
      obtain ⟨k, hk, rfl⟩ := hrel
      have hlt : k < s.size := by omega
      have hbyte := byte_is s k hlt
      rw [List.getD_eq_getElem?_getD] at hbyte
      by_cases hkn : k < n
      · have ht : ((s[k].toNat : Int) == 32) = true := by rw [hbyte, hbl.out k hkn]; rfl
        clear hbyte
        go_wp2
        go_round
        case rel => exact ⟨k + 1, by omega, by go_num⟩
        case measure => simp [intOf]; omega
      · obtain rfl : k = n := by omega
        have ht : ((s[k].toNat : Int) == 32) = false := by
          have h := hbn.out
          rw [List.getElem?_eq_getElem (by simpa using hlt)] at h hbyte
          rw [hbyte]
          simp only [Option.getD_some]
          generalize s.data.toList[k]'(by simpa using hlt) = z at h
          simp
          intro e
          exact h (by rw [UInt8.toNat_inj.1 (show z.toNat = (32 : UInt8).toNat by simp; omega)])
        clear hbyte
        have w1 : IntKind.i64.wrap ((k : Int) + (x.size : Int)) = (k : Int) + x.size := IntWalk.i64_in _ (by omega)
        have w2 : (0 : Int) ≤ (k : Int) + x.size := by omega
        by_cases he : k + x.size = s.size
        · have hq : (((k : Int) + x.size) == s.size) = true := by simp; omega
          have hy : y = ⟨#[]⟩ := by
            rw [E2.out, List.drop_eq_nil_of_le (by simp; omega)]
            rfl
          subst hy
          clear he
          go_wp2
          go_ret2
          exact ⟨rfl, HB1.out⟩
        · have hq : (((k : Int) + x.size) == s.size) = false := by simp; omega
          have hy : Hid (s.extract (k + x.size + 1) s.size = y) := hidden (by
            rw [E2.out, txt_extract, List.take_of_length_le (by simp)])
          have w3 : IntKind.i64.wrap ((k : Int) + x.size + 1) = (k : Int) + x.size + 1 := IntWalk.i64_in _ (by omega)
          have w4 : (0 : Int) ≤ (k : Int) + x.size + 1 := by omega
          have w5 : ((k : Int) + x.size + 1).toNat = k + x.size + 1 := by omega
          have w6 : (k : Int) + x.size + 1 ≤ (s.size : Int) := by omega
          go_wp2
          go_quiet (fail)
          go_wp2
          go_ret2
          exact ⟨by rw [hy.out]; rfl, below_drawn HB1.out _⟩
end Go.Proofs.Ytjkjbibfaekklaa
