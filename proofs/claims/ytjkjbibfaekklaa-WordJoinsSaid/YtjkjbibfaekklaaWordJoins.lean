/- 'WordJoins' answers true for every text: its lines, each with a byte 10 behind it, are the text again; its words, joined, have the same words; the first word and the words behind it are all words. Conditions: none. -/
import Derived.Test.YtjkjbibfaekklaaWordJoin
namespace Go.Proofs.Ytjkjbibfaekklaa.lawWordJoins
open Go.ChangeShapes Go.WideShapes Go.ChangeAt Go.RowKit
open Go.ChangeMaps (open_string shut_string)
attribute [local go_sem] evalR_tmp evalR_const evalR_global evalR_func

def RD (ss : List ByteArray) (v : Value) (w : World) : Prop := Reads w 0 v ss
theorem rd_mono (ss : List ByteArray) : ∀ v w w', RD ss v w → Below w.heap.size w w' → RD ss v w' := fun _ _ _ h hb => Reads.kept h hb
theorem same_true {B B' : Nat} {v v' : Value} {ss : List ByteArray} {w : World} (h : Reads w B v ss) (h' : Reads w B' v' ss) :
    Calls Try.prog 16 #[v, v'] w fun e w' => e = .returned (.bool true) ∧ Below w.heap.size w w' := by
  have := same_reads h h'
  rwa [same_yes'] at this
/-- what stays while the last answer is reckoned -/
def WJ (w0 : World) (B : Nat) (v : Value) (ss : List ByteArray) (w : World) : Prop := Reads w B v ss ∧ Below w0.heap.size w0 w
theorem WJm {w0 w w' : World} {B : Nat} {v : Value} {ss : List ByteArray} (h : WJ w0 B v ss w) (hb : Below w.heap.size w w') : WJ w0 B v ss w' := ⟨h.1.kept hb, below_after h.2 hb⟩
def L (J x y : ByteArray) (r : List ByteArray) (b off m cap : Nat) : List (Value → World → Prop) :=
  [Is (.string J), RD (x :: r), Is (.slice (some ⟨b, off, none⟩) m cap), isTrue, isTrue, Is (.string x), Is (.slice (some ⟨b, off, none⟩) m cap), Is (.pointer (some ⟨b, off, none⟩)), Is (.string x), isTrue, isTrue, isTrue, Is (.string y), RD r, Is (.slice (some ⟨b, off, none⟩) m cap), RD r, isTrue, isTrue, isTrue, isTrue, isTrue, isTrue]

set_option maxHeartbeats 8000000 in
set_option maxRecDepth 100000 in
theorem walk (s : ByteArray) (w : World) (hs : s.size ≤ maxLen) :
    Calls Try.prog 5 #[.string s] w fun e w' => e = .returned (.bool true) ∧ Below w.heap.size w w' := by
  unfold maxLen at hs
  by_cases hlen : 1000 < s.size
  · go_enter Try.func5, Try.ntmps5
    go_wp2_with fail
    refine (knows_calls _).mono ?_
    rintro e w1 ⟨rfl, hb1⟩
    go_wp2
    go_ret
    exact ⟨rfl, hb1⟩
  · have L1 := hidden (fun W => lines_calls s W (by omega))
    obtain ⟨S', hS'⟩ : ∃ S', S' = txt (feedEnd s.data.toList) := ⟨_, rfl⟩
    have HS' := hidden hS'
    have hS's : S'.size ≤ 1001 := by
      rw [hS', txt_size]
      have := feedEnd_le s.data.toList
      simp at this
      omega
    have C1 := hidden (fun W => wcut_calls S' W (by unfold maxLen; omega))
    have W1 := hidden (fun W => words_calls S' W (by omega))
    have hlL := linesGo_len s.data.toList []
    have hll : s.data.toList.length = s.size := by simp
    rw [hll] at hlL
    clear hS' hll
    go_enter Try.func5, Try.ntmps5
    go_wp2_with fail
    refine (L1.out _).mono ?_
    rintro e w1 ⟨v, rfl, ⟨a, cap, rfl, hcap, hcm, hS⟩, hb1⟩
    have HB1 := hidden hb1
    have HS := hidden hS
    have hnL : (linesV s).length = (linesGo s.data.toList []).length := by simp [linesV]
    rw [hnL] at hcap HS ⊢
    unfold maxLen at hcm
    clear hb1 hS hnL
    go_wp2
    go_loop [3, 5] (fun t i => ∃ k : Nat, k ≤ (linesGo s.data.toList []).length ∧ i = .int .i64 k ∧ t = .string (txt (upLines (linesGo s.data.toList []) k))) (fun _ i => (linesGo s.data.toList []).length - (intOf i).toNat)
    case atStart => exact ⟨0, by omega, rfl, rfl⟩
    case round =>
      obtain ⟨k, hk, rfl, rfl⟩ := hrel
      by_cases hlt : k < (linesGo s.data.toList []).length
      · obtain ⟨b, off, rfl, _, hc⟩ := HS.out.2 (by omega)
        have hck : w1.cell? ⟨b, off + k, none⟩ = some (.string (txt ((linesGo s.data.toList [])[k]))) := by
          have := hc k hlt
          rwa [linesV, getD_map _ _ hlt] at this
        have hle := upLines_le (linesGo s.data.toList []) (k + 1)
        rw [lines_join s.data.toList [] (by simp), List.nil_append, upLines_more _ k hlt] at hle
        have hfe := feedEnd_le s.data.toList
        have hll : s.data.toList.length = s.size := by simp
        simp only [List.length_append, List.length_cons, List.length_nil] at hle
        have hN : Hid (txt (upLines (linesGo s.data.toList []) k) ++ txt ((linesGo s.data.toList [])[k]) ++ ⟨#[10]⟩ = txt (upLines (linesGo s.data.toList []) (k + 1))) := hidden (by
          rw [upLines_more _ k hlt, txt_add]
          exact txt_add _ [10])
        have s1 : (txt (upLines (linesGo s.data.toList []) k)).size + (txt ((linesGo s.data.toList [])[k])).size ≤ 2000 := by
          rw [txt_size, txt_size]; omega
        have s2 : (txt (upLines (linesGo s.data.toList []) k) ++ txt ((linesGo s.data.toList [])[k])).size + (⟨#[10]⟩ : ByteArray).size ≤ 2001 := by
          rw [ByteArray.size_append]
          have : (⟨#[10]⟩ : ByteArray).size = 1 := rfl
          omega
        clear hle hfe hll hc
        generalize txt (upLines (linesGo s.data.toList []) k) = J at *
        generalize txt ((linesGo s.data.toList [])[k]) = x at *
        go_wp2
        go_round
        case rel => exact ⟨k + 1, by omega, by go_num, by rw [hN.out]⟩
        case measure => simp [intOf]; omega
      · rw [upLines_all _ _ (by omega), ← HS'.out]
        clear HS
        have hcase : (s.size = 0 ∧ s = S') ∨ (∃ h : s.size - 1 < s.size, 0 < s.size ∧ s[s.size - 1] = 10 ∧ s = S') ∨ (∃ h : s.size - 1 < s.size, 0 < s.size ∧ s[s.size - 1] ≠ 10 ∧ s ++ ⟨#[10]⟩ = S') := by
          by_cases h0 : s.size = 0
          · exact .inl ⟨h0, by rw [HS'.out, feed_none h0]; rfl⟩
          · have h' : s.size - 1 < s.size := by omega
            by_cases hc : s[s.size - 1] = 10
            · exact .inr (.inl ⟨h', by omega, hc, by rw [HS'.out, feed_stays (by omega) h' hc]; rfl⟩)
            · refine .inr (.inr ⟨h', by omega, hc, ?_⟩)
              rw [HS'.out, feed_more (by omega) h' hc]
              exact txt_add s.data.toList [10]
        have hZ : Hid ((wordsV S' = [] ∧ (cutV S').1 = ⟨#[]⟩ ∧ (cutV S').2 = ⟨#[]⟩) ∨ wordsV S' = (cutV S').1 :: wordsV (cutV S').2) := hidden (by
          by_cases h : (cutW S'.data.toList).1 = []
          · obtain ⟨h1, h2⟩ := words_nil h
            exact .inl ⟨h1, by rw [h2], by rw [h2]⟩
          · exact .inr (words_cons h))
        have HRC : Hid (RetC S' = .returned (.tuple #[.string (cutV S').1, .string (cutV S').2])) := hidden rfl
        rw [HRC.out] at C1
        have W2 := hidden (fun W => words_calls (cutV S').2 W (by
          have : (cutV S').2.size ≤ S'.size := by
            show (cutW S'.data.toList).2.length ≤ _
            rw [cutW_behind]
            simp
          omega))
        have W3 := hidden (fun k W (hk : (wordsGo S'.data.toList []).length ≤ k) => words_calls (txt (upWords (wordsGo S'.data.toList []) k)) W (by
          rw [txt_size]
          have := upWords_le S'.data.toList k
          simp at this
          omega))
        have HW : Hid (wordsV S' = (wordsGo S'.data.toList []).map txt) := hidden rfl
        have HUW : Hid (∀ k, (wordsGo S'.data.toList []).length ≤ k → wordsV (txt (upWords (wordsGo S'.data.toList []) k)) = wordsV S') := hidden (fun k hk => by
          show (wordsGo (upWords _ k) []).map txt = _
          rw [upWords_all _ _ hk]
          rfl)
        have HUL : Hid (∀ k, (upWords (wordsGo S'.data.toList []) k).length ≤ 1002) := hidden (fun k => by
          have := upWords_le S'.data.toList k
          simp at this
          omega)
        clear HRC HS'
        generalize wordsGo S'.data.toList [] = Wd at *
        generalize wordsV S' = ws at *
        generalize (cutV S').1 = x at *
        generalize (cutV S').2 = y at *
        have hts := text_same S'
        have hkd : decide (k < (linesGo s.data.toList []).length) = false := by simp; omega
        have hkd2 : decide ((k : Int) < ((linesGo s.data.toList []).length : Int)) = false := by simp; omega
        generalize (linesGo s.data.toList []).length = n at *
        clear hk hlt hlL hcap hcm
        rcases hcase with ⟨h0, rfl⟩ | ⟨h', h0, hc, rfl⟩ | ⟨h', h0, hc, rfl⟩
        case' inr.inl =>
          have hc1 : ((s[s.size - 1].toNat : Int) == 10) = true := by rw [hc]; rfl
          have hc2 : ((s[s.size - 1].toNat : Int) != 10) = false := by rw [bne, hc1]; rfl
          have i1 : (0 : Int) ≤ (s.size : Int) - 1 := by omega
          have i2 : ((s.size : Int) - 1).toNat = s.size - 1 := by omega
          clear hc
        case' inr.inr =>
          have hc1 : ((s[s.size - 1].toNat : Int) == 10) = false := by
            generalize s[s.size - 1] = z at hc
            simp
            intro e
            exact hc (UInt8.toNat_inj.1 (by simp; omega))
          have hc2 : ((s[s.size - 1].toNat : Int) != 10) = true := by rw [bne, hc1]; rfl
          have i1 : (0 : Int) ≤ (s.size : Int) - 1 := by omega
          have i2 : ((s.size : Int) - 1).toNat = s.size - 1 := by omega
          have s1 : s.size + (⟨#[10]⟩ : ByteArray).size ≤ 2001 := by
            have : (⟨#[10]⟩ : ByteArray).size = 1 := rfl
            omega
          clear hc
        all_goals
          go_wp2_with fail
          refine (W1.out _).mono ?_
          rintro e w2 ⟨v2, rfl, hR2, hb2⟩
          have HB2 := hidden (below_after HB1.out hb2)
          have R2 := hidden hR2
          clear hb2
          obtain ⟨a2, cap2, rfl, g1, g2, hS2⟩ := hR2
          have hml : Hid (ws.length = Wd.length) := hidden (by rw [HW.out]; simp)
          have HS2 := hidden hS2
          unfold maxLen at g2
          clear hS2
          rw [hml.out] at g1 R2 HS2 ⊢
          obtain ⟨m, hm⟩ : ∃ m, m = Wd.length := ⟨_, rfl⟩
          have HM := hidden hm
          rw [← hm] at g1 R2 HS2 ⊢
          clear hm
          go_wp2
          go_loop [7, 8] (fun t i => ∃ k : Nat, k ≤ m ∧ i = .int .i64 k ∧ t = .string (txt (upWords Wd k))) (fun _ i => m - (intOf i).toNat)
          case atStart => exact ⟨0, by omega, rfl, rfl⟩
          case round =>
            obtain ⟨k, hk, rfl, rfl⟩ := hrel
            by_cases hlt : k < m
            · obtain ⟨b, off, rfl, _, hc⟩ := HS2.out.2 (by omega)
              have hkW : k < Wd.length := by rw [← HM.out]; exact hlt
              have hck : w2.cell? ⟨b, off + k, none⟩ = some (.string (txt (Wd[k]))) := by
                have := hc k hlt
                rwa [HW.out, getD_map _ _ hkW] at this
              have hle := HUL.out (k + 1)
              clear hc
              by_cases hk0 : k = 0
              · subst hk0
                have hN := hidden (upWords_one Wd hkW)
                rw [hN.out] at hle
                have s1 : (txt (upWords Wd 0)).size + (txt (Wd[0])).size ≤ 2000 := by
                  rw [txt_size, txt_size, upWords_zero]; simp; omega
                have hN2 : Hid (txt (upWords Wd 0) ++ txt (Wd[0]) = txt (upWords Wd 1)) := hidden (by rw [hN.out, txt_add, upWords_zero]; rfl)
                clear hle hN
                rw [Nat.add_zero] at hck
                generalize txt (upWords Wd 0) = J at *
                generalize txt (Wd[0]) = z at *
                go_wp2
                go_round
                case rel => exact ⟨1, by omega, rfl, by rw [hN2.out]⟩
                case measure => simp [intOf]; omega
              · have hN := hidden (upWords_more Wd k hkW (by omega))
                rw [hN.out] at hle
                simp only [List.length_append, List.length_cons, List.length_nil] at hle
                have o1 : (⟨#[32]⟩ : ByteArray).size = 1 := rfl
                have s1 : (txt (upWords Wd k)).size + (⟨#[32]⟩ : ByteArray).size ≤ 2000 := by
                  rw [o1, txt_size]; omega
                have s2 : (txt (upWords Wd k) ++ ⟨#[32]⟩).size + (txt (Wd[k])).size ≤ 2000 := by
                  rw [ByteArray.size_append, o1, txt_size, txt_size]; omega
                have hN2 : Hid (txt (upWords Wd k) ++ ⟨#[32]⟩ ++ txt (Wd[k]) = txt (upWords Wd (k + 1))) := hidden (by
                  rw [hN.out, ← txt_add, ← txt_add]
                  rfl)
                have hk1 : decide (0 < k) = true := by simp; omega
                have hk2 : 0 < k := by omega
                clear hle hN o1 hk0
                generalize txt (upWords Wd k) = J at *
                generalize txt (Wd[k]) = z at *
                go_wp2
                go_round
                case rel => exact ⟨k + 1, by omega, by go_num, by rw [hN2.out]⟩
                case measure => simp [intOf]; omega
            · obtain rfl : k = m := by omega
              have HJ := hidden (W3.out k)
              have HJ2 := hidden (HUW.out k (by rw [HM.out]; exact Nat.le_refl _))
              have H1 := hidden (fun W => HJ.out W (by rw [HM.out]; exact Nat.le_refl _))
              rw [HJ2.out] at H1
              clear HUW HUL HJ HJ2 W3 HS2
              generalize txt (upWords Wd k) = J at *
              go_wp2_with fail
              refine (C1.out _).mono ?_
              rintro e w3 ⟨rfl, hb3⟩
              have HB3 := hidden (below_after HB2.out hb3)
              have R3 := hidden (R2.out.kept hb3)
              clear hb3 hk hlt
              rcases hZ.out with ⟨hw0, rfl, rfl⟩ | hw0
              · have hm0 : k = 0 := by rw [HM.out, ← hml.out, hw0]; rfl
                subst hm0
                clear hw0
                go_wp2_with fail
                refine (knows_calls _).mono ?_
                rintro e w4 ⟨rfl, hb4⟩
                go_wp2
                go_ret
                exact ⟨rfl, below_after HB3.out hb4⟩
              · obtain ⟨r, hr⟩ : ∃ r, r = wordsV y := ⟨_, rfl⟩
                rw [← hr] at hw0
                have H2 := hidden W2.out
                rw [← hr] at H2
                have hmk : k = r.length + 1 := by rw [HM.out, ← hml.out, hw0]; rfl
                rw [hw0] at H1 R3
                have hk0 : ((k : Int) == 0) = false := by simp; omega
                have hk1 : 0 < k := by omega
                obtain ⟨b, off, ha2⟩ : ∃ b off, a2 = some ⟨b, off, none⟩ := by
                  obtain ⟨a', cap', e', _, _, hS'⟩ := R3.out
                  obtain ⟨b, off, e'', _⟩ := hS'.2 (by simp)
                  simp only [Value.slice.injEq] at e'
                  exact ⟨b, off, by rw [e'.1, e'']⟩
                subst ha2
                clear hw0 hr hmk hZ HW HM hml R2 C1 W1 W2
                have HW0 := hidden (And.intro R3.out HB3.out)
                go_wp2
                refine wp_region_steps (typ (L J x y r b off k cap2)) (WJ w w1.heap.size (.slice (some ⟨b, off, none⟩) k cap2) (x :: r)) (by kernel_rfl) (by kernel_rfl) (by kernel_rfl) (by kernel_rfl) ?mono ?start [4, 11, 18] (by kernel_rfl) ?guards ?step ?fin
                case mono =>
                  refine typ_mono ?_
                  simp only [L, List.forall_mem_cons]
                  repeat' (first | exact is_mono _ | exact rd_mono _ | (intro p hp; cases hp; done) | refine And.intro ?_ ?_)
                case start => exact WJm HW0.out (Below.refl _ _).drew
                case guards =>
                  intro g hg v w h
                  simp at hg
                  rcases hg with rfl | rfl | rfl <;> exact h
                case fin =>
                  intro a w1 hs hv hW
                  rename_i Q' K hK
                  refine hK a w1 ?_
                  have h6 : a.tmps.getD 2 undef = .bool true := hv 21 2 (by kernel_rfl)
                  have hd := hs.defers
                  go_wp2
                  refine bodyPost_ret (results_tmp rfl _ _ _) hd ?_
                  rw [h6]
                  exact ⟨rfl, hW.2⟩
                case step =>
                  refine ⟨?_, ?_, ?_, ?_, ?_, ?_, ?_, ?_, ?_, ?_, ?_, ?_, ?_, ?_, ?_, ?_, ?_, ?_, ?_, ?_, ?_, ?_, trivial⟩
                  · intro ρ w1 hF hW
                    have HW := hidden hW
                    clear hW
                    have e7 : ρ 7 = .string J := hF 7 (by decide)
                    clear hF
                    unfold Does
                    go_simp
                    exact ⟨rfl, HW.out, Below.refl _ _⟩
                  · intro ρ w1 hF hW
                    have HW := hidden hW
                    clear hW
                    have e81 : ρ 81 = .string J := hF 81 (by decide)
                    clear hF
                    unfold Does
                    go_simp
                    refine (H1.out _).mono ?_
                    rintro e w2 ⟨v, rfl, hr, hb⟩
                    exact ⟨_, rfl, hr.lower (Nat.zero_le _), WJm HW.out hb, hb⟩
                  · intro ρ w1 hF hW
                    have HW := hidden hW
                    clear hW
                    have e6 : ρ 6 = .slice (some ⟨b, off, none⟩) k cap2 := hF 6 (by decide)
                    clear hF
                    unfold Does
                    go_simp
                    exact ⟨rfl, HW.out, Below.refl _ _⟩
                  · intro ρ w1 hF hW
                    have HW := hidden hW
                    clear hW
                    obtain e82 : RD (x :: r) (ρ 82) w1 := hF 82 (by decide)
                    have e83 : ρ 83 = .slice (some ⟨b, off, none⟩) k cap2 := hF 83 (by decide)
                    clear hF
                    unfold Does
                    go_simp
                    refine (same_true e82 HW.out.1).mono ?_
                    rintro e w2 ⟨rfl, hb⟩
                    exact ⟨_, rfl, rfl, WJm HW.out hb, hb⟩
                  · intro ρ w1 hF hW
                    have HW := hidden hW
                    clear hW
                    have e84 : ρ 84 = .bool true := hF 84 (by decide)
                    clear hF
                    unfold Does
                    go_simp
                    exact ⟨rfl, HW.out, Below.refl _ _⟩
                  · intro ρ w1 hF hW
                    have HW := hidden hW
                    clear hW
                    have e9 : ρ 9 = .string x := hF 9 (by decide)
                    clear hF
                    unfold Does
                    go_simp
                    exact ⟨rfl, HW.out, Below.refl _ _⟩
                  · intro ρ w1 hF hW
                    have HW := hidden hW
                    clear hW
                    have e6 : ρ 6 = .slice (some ⟨b, off, none⟩) k cap2 := hF 6 (by decide)
                    clear hF
                    unfold Does
                    go_simp
                    exact ⟨rfl, HW.out, Below.refl _ _⟩
                  · intro ρ w1 hF hW
                    have HW := hidden hW
                    clear hW
                    have e87 : ρ 87 = .slice (some ⟨b, off, none⟩) k cap2 := hF 87 (by decide)
                    clear hF
                    have hm : 0 < k := by have := (reads_tail HW.out.1).1; omega
                    unfold Does
                    go_simp
                    exact ⟨rfl, HW.out, Below.refl _ _⟩
                  · intro ρ w1 hF hW
                    have HW := hidden hW
                    clear hW
                    have e88 : ρ 88 = .pointer (some ⟨b, off, none⟩) := hF 88 (by decide)
                    clear hF
                    have hc := (reads_tail HW.out.1).2.2.2.2.1
                    unfold Does
                    go_simp
                    exact ⟨rfl, HW.out, Below.refl _ _⟩
                  · intro ρ w1 hF hW
                    have HW := hidden hW
                    clear hW
                    have e86 : ρ 86 = .string x := hF 86 (by decide)
                    have e89 : ρ 89 = .string x := hF 89 (by decide)
                    clear hF
                    have hq := text_same x
                    unfold Does
                    go_simp
                    exact ⟨rfl, HW.out, Below.refl _ _⟩
                  · intro ρ w1 hF hW
                    have HW := hidden hW
                    clear hW
                    have e85 : ρ 85 = .bool true := hF 85 (by decide)
                    have e90 : ρ 90 = .bool true := hF 90 (by decide)
                    clear hF
                    unfold Does
                    go_simp
                    exact ⟨rfl, HW.out, Below.refl _ _⟩
                  · intro ρ w1 hF hW
                    have HW := hidden hW
                    clear hW
                    have e91 : ρ 91 = .bool true := hF 91 (by decide)
                    clear hF
                    unfold Does
                    go_simp
                    exact ⟨rfl, HW.out, Below.refl _ _⟩
                  · intro ρ w1 hF hW
                    have HW := hidden hW
                    clear hW
                    have e10 : ρ 10 = .string y := hF 10 (by decide)
                    clear hF
                    unfold Does
                    go_simp
                    exact ⟨rfl, HW.out, Below.refl _ _⟩
                  · intro ρ w1 hF hW
                    have HW := hidden hW
                    clear hW
                    have e93 : ρ 93 = .string y := hF 93 (by decide)
                    clear hF
                    unfold Does
                    go_simp
                    refine (H2.out _).mono ?_
                    rintro e w2 ⟨v, rfl, hr, hb⟩
                    exact ⟨_, rfl, hr.lower (Nat.zero_le _), WJm HW.out hb, hb⟩
                  · intro ρ w1 hF hW
                    have HW := hidden hW
                    clear hW
                    have e6 : ρ 6 = .slice (some ⟨b, off, none⟩) k cap2 := hF 6 (by decide)
                    clear hF
                    unfold Does
                    go_simp
                    exact ⟨rfl, HW.out, Below.refl _ _⟩
                  · intro ρ w1 hF hW
                    have HW := hidden hW
                    clear hW
                    have e95 : ρ 95 = .slice (some ⟨b, off, none⟩) k cap2 := hF 95 (by decide)
                    clear hF
                    obtain ⟨g1, g2, g3, _, _, g6, g7⟩ := reads_tail HW.out.1
                    unfold maxLen at g3
                    by_cases hcap : cap2 = 1
                    · have hr := g6 hcap
                      have hm : k = 1 := by omega
                      clear g1 g6 g7
                      subst hcap hm
                      unfold Does
                      go_simp
                      exact ⟨hr.lower (Nat.zero_le _), HW.out, Below.refl _ _⟩
                    · have hr := g7 hcap
                      have hm : (1 : Int) ≤ (k : Int) := by omega
                      have hc2 : 1 < cap2 := by omega
                      clear g1 g6 g7
                      unfold Does
                      go_simp
                      exact ⟨hr.lower (Nat.zero_le _), HW.out, Below.refl _ _⟩
                  · intro ρ w1 hF hW
                    have HW := hidden hW
                    clear hW
                    obtain e94 : RD r (ρ 94) w1 := hF 94 (by decide)
                    obtain e96 : RD r (ρ 96) w1 := hF 96 (by decide)
                    clear hF
                    unfold Does
                    go_simp
                    refine (same_true e94 e96).mono ?_
                    rintro e w2 ⟨rfl, hb⟩
                    exact ⟨_, rfl, rfl, WJm HW.out hb, hb⟩
                  · intro ρ w1 hF hW
                    have HW := hidden hW
                    clear hW
                    have e92 : ρ 92 = .bool true := hF 92 (by decide)
                    have e97 : ρ 97 = .bool true := hF 97 (by decide)
                    clear hF
                    unfold Does
                    go_simp
                    exact ⟨rfl, HW.out, Below.refl _ _⟩
                  · intro ρ w1 hF hW
                    have HW := hidden hW
                    clear hW
                    have e98 : ρ 98 = .bool true := hF 98 (by decide)
                    clear hF
                    unfold Does
                    go_simp
                    exact ⟨rfl, HW.out, Below.refl _ _⟩
                  · intro ρ w1 hF hW
                    have HW := hidden hW
                    clear hW
                    clear hF
                    unfold Does
                    go_simp
                    refine (knows_calls _).mono ?_
                    rintro e w2 ⟨rfl, hb⟩
                    exact ⟨_, rfl, rfl, WJm HW.out hb, hb⟩
                  · intro ρ w1 hF hW
                    have HW := hidden hW
                    clear hW
                    have e99 : ρ 99 = .bool true := hF 99 (by decide)
                    have e100 : ρ 100 = .bool true := hF 100 (by decide)
                    clear hF
                    unfold Does
                    go_simp
                    exact ⟨rfl, HW.out, Below.refl _ _⟩
                  · intro ρ w1 hF hW
                    have HW := hidden hW
                    clear hW
                    have e101 : ρ 101 = .bool true := hF 101 (by decide)
                    clear hF
                    unfold Does
                    go_simp
                    exact ⟨rfl, HW.out, Below.refl _ _⟩

set_option maxRecDepth 100000 in
theorem lifted (os : Os) (started : os.Started) (H : Type) (enc : TypeId × Value → H) :
    ReturnsInHanded {} Try.checked os 5 .any (Rows.wordJoinsSpec.pre6 enc Try.prog Try.f5 Rows.wordJoinsRow.domain false) (Rows.wordJoinsSpec.post enc Try.prog Try.f5 false true false false) := by
  refine returnsInHanded_of_change (C := Try.checked) own started (by kernel_rfl) Try.func5
    (ChangeSpec.witness6 (enc := enc) (C := Try.checked) false ⟨#[], #[.string ⟨#[]⟩], []⟩ 8 (by kernel_rfl) (by kernel_rfl) (by kernel_rfl) (by kernel_rfl)) ?_
  intro W base args ds gs before hval0 hW hcnd _
  have hval : ∀ (j : Nat) t v, Try.f5.params[j]? = some t → args[j]? = some v → Value.okWide Try.prog W .any base t v := hval0
  have hW' : DataW.Whole enc Try.prog Try.f5.params.toList Rows.wordJoinsSpec.vars false W args.toList ds gs before := hW
  obtain ⟨p, q, hA0, hV, rfl, hfz, hnd⟩ := hW
  have hA : DataW.TrodAll enc Try.prog W 0 (fun _ => true) true Try.f5.params.toList args.toList ds p := hA0
  have hlt : ∀ x ∈ p, x.block < W.heap.size := fun x hx => hW'.lt x (List.mem_append_left _ hx)
  rw [Try.params5] at hA hval
  obtain ⟨v0, vs0, d0, ds0, p0, q0, hargs, hd0, hp0, h0, r0⟩ := trodAll_cons hA
  obtain ⟨rfl, _, _⟩ := trodAll_nil r0
  obtain rfl : args = #[v0] := by cases args; simp_all
  obtain ⟨a0, rfl, _, _, w0⟩ := open_string Try.underlying9 (hval 0 9 v0 rfl rfl) h0
  refine (walk a0 W w0).mono fun e W' ⟨he, hb⟩ => ⟨_, he, ends_true hW' rfl (by kernel_rfl) ?_ (by kernel_rfl) hb⟩
  intro xs hxs
  match xs, hxs with
  | [_], _ => rfl

theorem proved : Rows.WordJoinsSaid :=
  OpenClaim.holds_of_wide 5 Try.f5 rfl rfl rfl rfl rfl rfl rfl ⟨rfl, rfl, rfl, rfl, rfl⟩ rfl rfl rfl rfl rfl (by kernel_rfl) Try.func5 (by kernel_rfl)
    (of_decide_eq_true (by kernel_rfl)) (by unfold Func.isWrapper; first | (rw [if_pos (by decide +kernel)]; kernel_rfl) | (rw [if_neg (by decide +kernel)]; exact ⟨rfl, rfl⟩))
    (fun os started H enc _ => lifted os started H enc)
end Go.Proofs.Ytjkjbibfaekklaa.lawWordJoins
