/- DfRun, FaRdC, MuMath, FuObj, put together. -/
import Derived.Test.YtgaadndhecokfaaMu13
import Derived.Test.YtgaadndhecokfaaMu01
import Derived.Test.YtgaadndhecokfaaMu12
import Derived.Maps.AppendAt
/- Contracts of the reference's Run and Label of a machine. -/
namespace Go.Proofs.Ytgaadndhecokfaa
open Go.RowKit

/-- from state s on, behind the rest of a word -/
def runS (D : DfaM) : Int → List Nat → Int
  | s, [] => s
  | s, c :: r => if s < 0 then s else runS D (nxtD D s c) r
def runD (D : DfaM) (W : List Nat) : Int := if rightD D = true then runS D 0 W else -1
theorem runS_stop (D : DfaM) {s : Int} (h : s < 0) : ∀ W, runS D s W = s
  | [] => rfl
  | c :: r => by unfold runS; rw [if_pos h]
theorem bytes_drop (s : ByteArray) {k : Nat} (h : k < s.size) : ((s.data.toList.drop k).map (·.toNat)) = s[k].toNat :: (s.data.toList.drop (k + 1)).map (·.toNat) := by
  have hl : k < s.data.toList.length := by simpa using h
  rw [List.drop_eq_getElem_cons hl, List.map_cons]
  rfl

set_option maxHeartbeats 2000000 in
set_option maxRecDepth 100000 in
theorem rrun14_calls {w : World} {vn vl : Value} {D : DfaM} (s : ByteArray) (h : RdDfa w.heap.size w vn vl D) (hs : s.size ≤ maxLen) :
    Calls Try.prog 20 #[dfaA D.cls D.width vn vl, .string s] w fun e w' => e = .returned (.int .i64 (runD D (s.data.toList.map (·.toNat)))) ∧ Below w.heap.size w w' := by
  obtain ⟨an, cn, rfl⟩ := h.next.form
  have hbn : D.next.length ≤ 9223372036854775807 := by
    obtain ⟨_, _, e, h1, h2, _⟩ := h.next
    unfold maxLen at h2
    omega
  unfold maxLen at hs
  have HR := hidden (fun w' (hb : Below w.heap.size w w') => rright14_calls (h.below hb hb.size))
  obtain ⟨n, hn⟩ : ∃ n, n = D.next.length := ⟨_, rfl⟩
  rw [← hn] at hbn h HR ⊢
  have HN := hidden hn
  have HD := hidden h
  have HX := hidden (DfaAt.new w D.cls D.width (.slice an n cn) vl)
  have HB0 := hidden ((Below.refl w.heap.size w).alloc (Nat.le_refl _) (.cells (dfaC D.cls D.width (.slice an n cn) vl) 26))
  have hbx := run_box_dfa D.cls D.width (.slice an n cn) vl
  clear h hn
  go_enter Try.func20, Try.ntmps20
  go_wp2_with (refine load_dfa rfl (x := .tmp 2) rfl rfl HX.out ?_)
  refine (HR.out _ HB0.out).mono ?_
  rintro e w1 ⟨rfl, hb1⟩
  have HX1 := hidden (HX.out.below hb1)
  have HB1 := hidden (below_then HB0.out HB0.out.size hb1)
  clear hb1
  cases hr : rightD D with
  | false =>
    have HF := hidden (show runD D (s.data.toList.map (·.toNat)) = -1 by unfold runD; rw [if_neg (by simp [hr])])
    clear hr
    go_wp2
    go_ret
    exact ⟨ret_i HF.out.symm, HB1.out⟩
  | true =>
    have HRT := hidden hr
    have HF := hidden (show runD D (s.data.toList.map (·.toNat)) = runS D 0 ((s.data.toList.drop 0).map (·.toNat)) by unfold runD; rw [if_pos hr]; rfl)
    have hn0 : 0 < n := by have := (rightD_spec hr).2.2.1; rw [HN.out]; omega
    clear hr
    go_wp2
    go_loopw [5, 6] (fun x i wr => ∃ (k : Nat) (t : Int), k ≤ s.size ∧ x = .int .i64 t ∧ i = .int .i64 k ∧ -1 ≤ t ∧ t < n ∧ runD D (s.data.toList.map (·.toNat)) = runS D t ((s.data.toList.drop k).map (·.toNat)) ∧ Below w1.heap.size w1 wr) (fun _ i _ => s.size - (Go.RowKit.intOf i).toNat)
    case atStart => exact ⟨0, 0, by omega, rfl, rfl, by omega, by omega, HF.out, Below.refl _ _⟩
    case round =>
      obtain ⟨k, t, hk, rfl, rfl, ht0, ht1, hf, hb⟩ := hrel
      have HFF := hidden hf
      have HB := hidden hb
      clear hf hb HF
      by_cases hlt : k < s.size
      · by_cases h0 : t < 0
        · have HE := hidden (HFF.out.trans (runS_stop D h0 _))
          have hq : decide ((0 : Int) ≤ t) = false := decide_eq_false (by omega)
          clear HFF
          go_wp2
          go_ret
          exact ⟨ret_i HE.out.symm, below_then HB1.out HB1.out.size HB.out⟩
        · obtain ⟨j, rfl⟩ : ∃ j : Nat, t = j := ⟨t.toNat, by omega⟩
          have hj : j < n := by omega
          have hq : decide ((0 : Int) ≤ j) = true := decide_eq_true (by omega)
          obtain ⟨c, hc⟩ : ∃ c, c = s[k].toNat := ⟨_, rfl⟩
          have hc256 : c < 256 := by rw [hc]; exact UInt8.toNat_lt _
          have hcx : ((s[k]'hlt).toNat : Int) = (c : Int) := by rw [hc]
          have hin := nxtD_in HRT.out (s := (j : Int)) (by omega) (by rw [← HN.out]; omega) hc256
          have hff := HFF.out
          rw [bytes_drop s hlt, runS, if_neg (by omega), ← hc] at hff
          obtain ⟨b, off, a', c', rfl, hbb, hcl, hrr⟩ := (HN.out ▸ HD.out.next).at (below_then HB1.out HB1.out.size HB.out) j (by rw [← HN.out]; exact hj)
          have hin1 : D.cls c < (D.next.getD j []).length := hin.1
          obtain ⟨b3, off3, rfl, hb3, hc3⟩ := hrr.atZ (Below.refl _ _) (D.cls c) hin1
          have hX := HX1.out.below HB.out
          have hcls := hX.cls hc256
          have c2 := fun (p : Later wr) => Later.cell hX.next hX.lt p
          have c4 := fun (p : Later wr) => Later.cell hcls hX.lt p
          have d0 := fun (p : Later wr) => Later.cell hcl (cell_lt hcl) p
          have d1 := fun (p : Later wr) => Later.cell hc3 (cell_lt hc3) p
          have hci : (c : Int) < 256 := by omega
          have hcl2 : D.cls c < 256 := HD.out.small c hc256
          have hin2 : (D.cls c : Int) < ((D.next.getD j []).length : Int) := by omega
          have hx : (D.next.getD j []).getD (D.cls c) 0 = nxtD D (j : Int) c := rfl
          rw [hx] at d1
          have hx0 := hin.2.1
          have hx1 := hin.2.2
          rw [← HN.out] at hx1
          generalize nxtD D (j : Int) c = x at *
          generalize (D.next.getD j []).length = rl at *
          generalize D.cls c = g at *
          have HG := hidden hff
          clear hff hin hcls hcl hc3 hrr hX hx hc HFF hin1
          go_wp2
          refine wp_region_later (by kernel_rfl) (by kernel_rfl) ?_
          repeat (go_big_quiet_step (fail))
          refine wpQuiet_nil ?_
          rintro _ ⟨⟨_, hb5⟩, rfl⟩
          rename_i w5
          have HB5 := hidden (below_then HB.out HB.out.size hb5)
          clear hb5
          go_wp2
          go_roundw
          case rel => exact ⟨k + 1, x, by omega, by go_num, by go_num, hx0, hx1, HG.out, HB5.out⟩
          case measure => simp [Go.RowKit.intOf]; omega
      · obtain rfl : k = s.size := by omega
        have HE := hidden (show runD D (s.data.toList.map (·.toNat)) = t from by rw [HFF.out, List.drop_eq_nil_of_le (by simp)]; rfl)
        clear HFF
        go_wp2
        go_ret
        exact ⟨ret_i HE.out.symm, below_then HB1.out HB1.out.size HB.out⟩
end Go.Proofs.Ytgaadndhecokfaa

/- The reference's reader: a byte that stands for itself. -/
namespace Go.Proofs.Ytgaadndhecokfaa
open Go.RowKit

def txt (l : List UInt8) : ByteArray := ⟨l.toArray⟩
theorem txt_size (l : List UInt8) : (txt l).size = l.length := rfl
def vis (n : Nat) : Bool := decide (32 < n) && decide (n ≤ 126)
theorem toNat_ne {c d : UInt8} (h : c ≠ d) : ((c.toNat : Int) == (d.toNat : Int)) = false := by
  rw [Bool.eq_false_iff]
  intro e
  rw [beq_iff_eq] at e
  exact h (UInt8.toNat_inj.1 (by omega))
theorem drop_at {s : ByteArray} {k : Nat} {c : UInt8} {r : List UInt8} (h : s.data.toList.drop k = c :: r) : (∃ hp : k < s.size, s[k]'hp = c) ∧ s.data.toList.drop (k + 1) = r ∧ r.length + k + 1 = s.size := by
  have hl : k < s.data.toList.length := by
    rcases Nat.lt_or_ge k s.data.toList.length with g | g
    · exact g
    · rw [List.drop_eq_nil_of_le g] at h
      cases h
  have hs : s.data.toList.length = s.size := by simp
  rw [List.drop_eq_getElem_cons hl] at h
  obtain ⟨h1, h2⟩ := List.cons.inj h
  refine ⟨⟨by omega, ?_⟩, h2, ?_⟩
  · rw [← h1]
    rfl
  · rw [← h2, List.length_drop]
    omega
theorem drop_nil {s : ByteArray} {k : Nat} (h : s.data.toList.drop k = []) : s.size ≤ k := by
  have := List.drop_eq_nil_iff.1 h
  simpa using this
/-- the byte at a place, as a number -/
theorem num_at {s : ByteArray} {k : Nat} {c : UInt8} (h : ∃ hp : k < s.size, s[k]'hp = c) : ∃ hp : k < s.size, ((s[k]'hp).toNat : Int) = (c.toNat : Int) := by
  obtain ⟨hp, e⟩ := h
  exact ⟨hp, by rw [e]⟩

set_option maxRecDepth 100000 in
theorem seen_calls (n : Nat) (w : World) : Calls Try.prog 87 #[.int .u8 n] w fun e w' => e = .returned (.bool (vis n)) ∧ w = w' := by
  have hv : vis n = (decide (32 < n) && decide (n ≤ 126)) := rfl
  have HV := hidden hv
  clear hv
  by_cases h1 : 32 < n
  · have d1 : decide ((33 : Int) ≤ n) = true := decide_eq_true (by omega)
    rw [decide_eq_true h1, Bool.true_and] at HV
    have d2 : decide ((n : Int) ≤ 126) = decide (n ≤ 126) := by simp; omega
    generalize decide (n ≤ 126) = c at *
    go_enter Try.func87, Try.ntmps87
    go_wp2
    go_ret
    exact ⟨ret_b HV.out.symm, rfl⟩
  · have d1 : decide ((33 : Int) ≤ n) = false := decide_eq_false (by omega)
    rw [decide_eq_false h1, Bool.false_and] at HV
    go_enter Try.func87, Try.ntmps87
    go_wp2
    go_ret
    exact ⟨ret_b HV.out.symm, rfl⟩
set_option maxHeartbeats 2000000 in
set_option maxRecDepth 100000 in
theorem in_calls (R : List UInt8) (c : UInt8) (w : World) (hR : R.length ≤ 1000) : Calls Try.prog 65 #[.string (txt R), .int .u8 (c.toNat : Int)] w fun e w' => e = .returned (.bool (decide (c ∈ R))) ∧ w = w' := by
  obtain ⟨s, hs⟩ : ∃ s, s = txt R := ⟨_, rfl⟩
  have hL : s.data.toList = R := by rw [hs]; rfl
  have hsz : s.size ≤ 1000 := by rw [hs, txt_size]; exact hR
  have HRes := hidden (fun (b : Bool) (h : (c ∈ R) ↔ b = true) => (show decide (c ∈ R) = b by cases b <;> simp_all))
  rw [← hs]
  have hne : ∀ d : UInt8, d ≠ c → (((d.toNat : Int)) == (c.toNat : Int)) = false := fun d h => toNat_ne h
  have HNE := hidden hne
  have HL := hidden hL
  obtain ⟨n, hn⟩ : ∃ n : Int, n = (c.toNat : Int) := ⟨_, rfl⟩
  rw [← hn] at HNE ⊢
  have HN := hidden hn
  clear hs hL hR hne hn
  go_enter Try.func65, Try.ntmps65
  go_wp2
  go_loop [5] (fun i => ∃ k : Nat, k ≤ s.size ∧ i = .int .i64 k ∧ Hid ((c ∈ R) ↔ c ∈ R.drop k)) (fun i => s.size - (RowKit.intOf i).toNat)
  case atStart => exact ⟨0, by omega, rfl, hidden Iff.rfl⟩
  case round =>
    obtain ⟨k, hk, rfl, hm⟩ := hrel
    match hd : R.drop k with
    | [] =>
      rw [← HL.out] at hd
      have h0 := drop_nil hd
      have q0 : decide ((k : Int) < s.size) = false := decide_eq_false (by omega)
      have HF := hidden (HRes.out false (by rw [hm.out, ← HL.out, hd]; simp))
      clear hm hd
      go_wp2
      go_ret
      exact ⟨ret_b HF.out.symm, rfl⟩
    | d :: t =>
      have hd2 := hd
      rw [← HL.out] at hd2
      obtain ⟨h1, h2, h3⟩ := drop_at hd2
      obtain ⟨hp, hx⟩ := num_at h1
      have q0 : decide ((k : Int) < s.size) = true := decide_eq_true (by omega)
      have hadd : IntKind.i64.wrap ((k : Int) + 1) = (k : Int) + 1 := by rw [IntKind.wrap_i64]; omega
      by_cases hdc : d = c
      · have HF := hidden (HRes.out true (by rw [hm.out, hd, hdc]; simp))
        have q1 : ((d.toNat : Int) == n) = true := by rw [hdc, HN.out]; simp
        generalize (d.toNat : Int) = m at *
        clear hm hd hd2 h1 h2 h3 hdc
        go_wp2
        go_ret
        exact ⟨ret_b HF.out.symm, rfl⟩
      · have HM := hidden (show (c ∈ R) ↔ c ∈ R.drop (k + 1) by
          rw [hm.out, hd, ← HL.out, h2]
          simp [Ne.symm hdc])
        have q1 := HNE.out d hdc
        generalize (d.toNat : Int) = m at *
        clear hm hd hd2 h1 h2 hdc
        go_wp2
        go_round
        case rel => exact ⟨k + 1, by omega, by go_num, HM⟩
        case measure => simp [RowKit.intOf]; omega
/-- the byte of a text at a place -/
def At (s : ByteArray) (p : Nat) (c : UInt8) : Prop := ∃ hp : p < s.size, ((s[p]'hp).toNat : Int) = (c.toNat : Int)
set_option maxRecDepth 100000 in
theorem rchar_at (s : ByteArray) (p : Nat) (c : UInt8) (R : List UInt8) (w : World) (hat : At s p c) (hs : s.size ≤ 1000) (hR : R.length ≤ 1000) (hv : vis c.toNat = true) (h92 : c ≠ 92) (hin : c ∉ R) :
    Calls Try.prog 81 #[.string s, .int .i64 (p : Int), .string (txt R)] w fun e w' => e = .returned (.tuple #[.int .u8 (c.toNat : Int), .int .i64 ((p + 1 : Nat) : Int), .bool true]) ∧ w = w' := by
  obtain ⟨hp, hx⟩ := hat
  have hI := fun w => in_calls R c w hR
  simp only [decide_eq_false hin] at hI
  have HI := hidden hI
  have hV := fun w => seen_calls c.toNat w
  simp only [hv] at hV
  have HV := hidden hV
  have q0 : decide ((s.size : Int) ≤ (p : Int)) = false := decide_eq_false (by omega)
  have q0' : decide (s.size ≤ p) = false := decide_eq_false (by omega)
  have q1 : ((c.toNat : Int) == 92) = false := toNat_ne (d := 92) h92
  have hadd : IntKind.i64.wrap ((p : Int) + 1) = ((p + 1 : Nat) : Int) := by rw [IntKind.wrap_i64]; omega
  generalize (c.toNat : Int) = n at *
  generalize txt R = T at *
  clear hI hV hv hin h92
  go_enter Try.func81, Try.ntmps81
  go_wp2_with fail
  refine (HV.out _).mono ?_
  rintro e w1 ⟨rfl, rfl⟩
  go_wp2_with fail
  refine (HI.out _).mono ?_
  rintro e w1 ⟨rfl, rfl⟩
  go_wp2
  go_ret3
  exact ⟨rfl, rfl⟩
end Go.Proofs.Ytgaadndhecokfaa

/- What the reference of chapter 16 answers: the longest beginning that is a token's, a text's pieces, and what they come to. Of no program. -/
namespace Go.Proofs.Ytgaadndhecokfaa

/-- the label of a word -/
def labW (D : DfaM) (u : List UInt8) : Int := labelD D (runD D (u.map UInt8.toNat))
/-- of the beginnings of at most n bytes: the longest one with a label; or one byte of no token -/
def nxG (D : DfaM) (w : List UInt8) : Nat → Int × Nat
  | 0 => (-1, 1)
  | n + 1 => if 0 ≤ labW D (w.take (n + 1)) then (labW D (w.take (n + 1)), n + 1) else nxG D w n
def nxP (D : DfaM) (w : List UInt8) : Int × Nat := nxG D w w.length
/-- a text's pieces -/
def cutF (D : DfaM) : Nat → List UInt8 → List (Int × List UInt8)
  | 0, _ => []
  | _ + 1, [] => []
  | m + 1, b :: r => ((nxP D (b :: r)).1, (b :: r).take (nxP D (b :: r)).2) :: cutF D m ((b :: r).drop (nxP D (b :: r)).2)
def cutP (D : DfaM) (w : List UInt8) : List (Int × List UInt8) := cutF D w.length w
def joinP (l : List (Int × List UInt8)) : List UInt8 := l.flatMap (·.2)

section
variable {D : DfaM}
/-- what the search says: a label and where it ends, none longer; or none at all -/
theorem nxG_spec (w : List UInt8) : ∀ n, (nxG D w n = (-1, 1) ∧ ∀ j, 1 ≤ j → j ≤ n → labW D (w.take j) < 0) ∨
    (∃ e, 1 ≤ e ∧ e ≤ n ∧ nxG D w n = (labW D (w.take e), e) ∧ 0 ≤ labW D (w.take e) ∧ ∀ j, e < j → j ≤ n → labW D (w.take j) < 0)
  | 0 => .inl ⟨rfl, fun j h1 h2 => by omega⟩
  | n + 1 => by
    unfold nxG
    by_cases h : 0 ≤ labW D (w.take (n + 1))
    · rw [if_pos h]
      exact .inr ⟨n + 1, by omega, by omega, rfl, h, fun j h1 h2 => by omega⟩
    · rw [if_neg h]
      rcases nxG_spec w n with ⟨h1, h2⟩ | ⟨e, h1, h2, h3, h4, h5⟩
      · refine .inl ⟨h1, fun j g1 g2 => ?_⟩
        by_cases e : j = n + 1
        · subst e; omega
        · exact h2 j g1 (by omega)
      · refine .inr ⟨e, h1, by omega, h3, h4, fun j g1 g2 => ?_⟩
        by_cases e2 : j = n + 1
        · subst e2; omega
        · exact h5 j g1 (by omega)
theorem nx_len {w : List UInt8} (hw : w ≠ []) : 1 ≤ (nxP D w).2 ∧ (nxP D w).2 ≤ w.length := by
  have hl : 0 < w.length := List.length_pos_iff.2 hw
  unfold nxP
  rcases nxG_spec (D := D) w w.length with ⟨h, _⟩ | ⟨e, h1, h2, h3, _⟩
  · rw [h]; exact ⟨Nat.le_refl _, hl⟩
  · rw [h3]; exact ⟨h1, h2⟩
theorem cutF_nil (m : Nat) : cutF D m [] = [] := by cases m <;> rfl
theorem cut_fuel : ∀ (N m : Nat) (w : List UInt8), w.length ≤ N → w.length ≤ m → cutF D m w = cutP D w
  | N, m, [], _, _ => cutF_nil m
  | 0, _, _ :: _, h, _ => by simp at h
  | N + 1, 0, b :: r, _, h => by simp at h
  | N + 1, m + 1, b :: r, h, h' => by
    have h1 := (nx_len (D := D) (w := b :: r) (by simp)).1
    have hd : ((b :: r).drop (nxP D (b :: r)).2).length ≤ r.length := by rw [List.length_drop, List.length_cons]; omega
    simp only [List.length_cons] at h h'
    have e1 := cut_fuel N m ((b :: r).drop (nxP D (b :: r)).2) (by omega) (by omega)
    have e2 := cut_fuel N r.length ((b :: r).drop (nxP D (b :: r)).2) (by omega) hd
    show _ :: cutF D m _ = _ :: cutF D r.length _
    rw [e1, e2]
theorem cut_nil : cutP D [] = [] := rfl
theorem cut_step {w : List UInt8} (hw : w ≠ []) : cutP D w = ((nxP D w).1, w.take (nxP D w).2) :: cutP D (w.drop (nxP D w).2) := by
  cases w with
  | nil => exact absurd rfl hw
  | cons b r =>
    have h1 := (nx_len (D := D) (w := b :: r) (by simp)).1
    show _ :: cutF D r.length _ = _
    rw [cut_fuel r.length r.length _ (by rw [List.length_drop, List.length_cons]; omega) (by rw [List.length_drop, List.length_cons]; omega)]
theorem cut_join : ∀ (m : Nat) (w : List UInt8), w.length = m → joinP (cutP D w) = w := by
  intro m
  induction m using Nat.strongRecOn with
  | _ m ih =>
    intro w hm
    by_cases hw : w = []
    · subst hw; rfl
    · have h := nx_len (D := D) hw
      rw [cut_step hw]
      show w.take _ ++ joinP (cutP D (w.drop _)) = w
      rw [ih (w.drop (nxP D w).2).length (by rw [List.length_drop]; omega) _ rfl, List.take_append_drop]
/-- a piece by itself is cut into itself -/
theorem nx_self {w : List UInt8} (hw : w ≠ []) : nxP D (w.take (nxP D w).2) = nxP D w := by
  have hl := nx_len (D := D) hw
  have htl : (w.take (nxP D w).2).length = (nxP D w).2 := by rw [List.length_take]; omega
  obtain ⟨n, hn⟩ : ∃ n, n = (nxP D w).2 := ⟨_, rfl⟩
  rw [← hn] at htl hl ⊢
  unfold nxP at hn ⊢
  rw [htl]
  have ht : ∀ j, j ≤ n → (w.take n).take j = w.take j := fun j hj => by rw [List.take_take, Nat.min_eq_left hj]
  obtain ⟨m, rfl⟩ : ∃ m, n = m + 1 := ⟨n - 1, by omega⟩
  rcases nxG_spec (D := D) w w.length with ⟨h, h2⟩ | ⟨e, h1, h2, h3, h4, _⟩
  · rw [h] at hn ⊢
    obtain rfl : m = 0 := by simp at hn; omega
    unfold nxG
    rw [ht 1 (Nat.le_refl _), if_neg (by have := h2 1 (by omega) hl.2; omega)]
    rfl
  · rw [h3] at hn ⊢
    obtain rfl : e = m + 1 := by simpa using hn.symm
    unfold nxG
    rw [ht (m + 1) (Nat.le_refl _), if_pos h4]
theorem cut_self {w : List UInt8} (hw : w ≠ []) : cutP D (w.take (nxP D w).2) = [((nxP D w).1, w.take (nxP D w).2)] := by
  have h := nx_len (D := D) hw
  have hne : w.take (nxP D w).2 ≠ [] := fun e => by
    have h3 : (w.take (nxP D w).2).length = (nxP D w).2 := by rw [List.length_take]; omega
    rw [e, List.length_nil] at h3
    omega
  rw [cut_step hne, nx_self hw, List.take_take, Nat.min_self, List.drop_eq_nil_of_le (by rw [List.length_take]; omega), cut_nil]
/-- behind the first n pieces the rest is cut by itself -/
theorem cut_rest : ∀ (n : Nat) (w : List UInt8), n ≤ (cutP D w).length → joinP ((cutP D w).take n) <+: w ∧ cutP D (w.drop (joinP ((cutP D w).take n)).length) = (cutP D w).drop n
  | 0, w, _ => ⟨by simp [joinP], by simp [joinP]⟩
  | n + 1, w, h => by
    have hw : w ≠ [] := fun e => by subst e; simp [cut_nil] at h
    have hl := nx_len (D := D) hw
    have e := cut_step (D := D) hw
    rw [e] at h ⊢
    obtain ⟨i1, i2⟩ := cut_rest n (w.drop (nxP D w).2) (by simpa using h)
    have ej : joinP ((((nxP D w).1, w.take (nxP D w).2) :: cutP D (w.drop (nxP D w).2)).take (n + 1)) = w.take (nxP D w).2 ++ joinP ((cutP D (w.drop (nxP D w).2)).take n) := rfl
    rw [ej]
    refine ⟨?_, ?_⟩
    · obtain ⟨r, hr⟩ := i1
      exact ⟨r, by rw [List.append_assoc, hr, List.take_append_drop]⟩
    · rw [List.length_append, List.length_take, Nat.min_eq_left hl.2, ← List.drop_drop, i2, List.drop_succ_cons]
/-- each piece is cut into itself -/
theorem cut_whole : ∀ (n : Nat) (w : List UInt8) (p : Int × List UInt8), (cutP D w)[n]? = some p → p.2 ≠ [] ∧ cutP D p.2 = [p]
  | n, w, p, h => by
    have hn : n < (cutP D w).length := (List.getElem?_eq_some_iff.1 h).1
    obtain ⟨_, e⟩ := cut_rest (D := D) n w (by omega)
    obtain ⟨v, hv⟩ : ∃ v, v = w.drop (joinP ((cutP D w).take n)).length := ⟨_, rfl⟩
    rw [← hv] at e
    have hd : ((cutP D w).drop n)[0]? = some p := by rw [List.getElem?_drop]; simpa using h
    rw [← e] at hd
    have hne : v ≠ [] := fun e2 => by rw [e2, cut_nil] at hd; simp at hd
    rw [cut_step hne] at hd
    simp only [List.getElem?_cons_zero, Option.some.injEq] at hd
    subst hd
    have hl := nx_len (D := D) hne
    refine ⟨fun e2 => ?_, cut_self hne⟩
    have h3 : (v.take (nxP D v).2).length = (nxP D v).2 := by rw [List.length_take]; omega
    rw [show v.take (nxP D v).2 = [] from e2, List.length_nil] at h3
    omega
/-- a piece, and where it stands -/
theorem cut_at (n : Nat) (w : List UInt8) (p : Int × List UInt8) (h : (cutP D w)[n]? = some p) : ∃ v, v = w.drop (joinP ((cutP D w).take n)).length ∧ v ≠ [] ∧ p = ((nxP D v).1, v.take (nxP D v).2) := by
  have hn : n < (cutP D w).length := (List.getElem?_eq_some_iff.1 h).1
  obtain ⟨_, e⟩ := cut_rest (D := D) n w (by omega)
  refine ⟨_, rfl, ?_⟩
  obtain ⟨v, hv⟩ : ∃ v, v = w.drop (joinP ((cutP D w).take n)).length := ⟨_, rfl⟩
  rw [← hv] at e ⊢
  have hd : ((cutP D w).drop n)[0]? = some p := by rw [List.getElem?_drop]; simpa using h
  rw [← e] at hd
  have hne : v ≠ [] := fun e2 => by rw [e2, cut_nil] at hd; simp at hd
  rw [cut_step hne] at hd
  simp only [List.getElem?_cons_zero, Option.some.injEq] at hd
  exact ⟨hne, hd.symm⟩
/-- what a piece is: of no token (then one byte, and no beginning of what is left is a token's), or its token's (then no longer beginning is any's) -/
theorem nx_says {v : List UInt8} (hv : v ≠ []) : ((nxP D v).1 = -1 ∧ (nxP D v).2 = 1 ∧ ∀ j, 1 ≤ j → j ≤ v.length → labW D (v.take j) < 0) ∨
    (0 ≤ (nxP D v).1 ∧ labW D (v.take (nxP D v).2) = (nxP D v).1 ∧ ∀ j, (nxP D v).2 < j → j ≤ v.length → labW D (v.take j) < 0) := by
  have hl := nx_len (D := D) hv
  unfold nxP at hl ⊢
  rcases nxG_spec (D := D) v v.length with ⟨h, h2⟩ | ⟨e, h1, h2, h3, h4, h5⟩
  · rw [h]; exact .inl ⟨rfl, rfl, h2⟩
  · rw [h3]; exact .inr ⟨h4, rfl, h5⟩
/-- the search from the front: behind n bytes the best so far is nxG's; where the run has stopped nothing comes any more -/
theorem runS_append16 (s : Int) : ∀ (w v : List Nat), runS D s (w ++ v) = runS D (runS D s w) v
  | [], _ => rfl
  | c :: r, v => by
    rw [List.cons_append, runS, runS]
    split
    · rename_i h
      rw [runS_stop D h]
    · exact runS_append16 _ r v
def stW (D : DfaM) (u : List UInt8) : Int := runS D 0 (u.map UInt8.toNat)
theorem lab_stop (hR : rightD D = true) {u v : List UInt8} (h : stW D u < 0) : labW D (u ++ v) < 0 := by
  unfold stW at h
  unfold labW runD
  rw [if_pos hR, List.map_append, runS_append16, runS_stop D h]
  unfold labelD
  rw [if_neg (by omega)]
  omega
/-- the state behind one byte more -/
theorem stW_more (w : List UInt8) {n : Nat} (hn : n < w.length) (h0 : 0 ≤ stW D (w.take n)) : stW D (w.take (n + 1)) = nxtD D (stW D (w.take n)) (w[n]).toNat := by
  rw [List.take_succ_eq_append_getElem hn]
  unfold stW at h0 ⊢
  rw [List.map_append, runS_append16]
  generalize runS D 0 ((w.take n).map UInt8.toNat) = x at *
  show runS D x [(w[n]).toNat] = _
  rw [runS, if_neg (by omega)]
  rfl
/-- the label where a run stands -/
theorem labW_at (hR : rightD D = true) {u : List UInt8} (h0 : 0 ≤ stW D u) (h1 : stW D u < D.next.length) : labW D u = D.label.getD (stW D u).toNat 0 := by
  have hl : D.label.length = D.next.length := (rightD_spec hR).2.2.2.1
  unfold labW runD
  rw [if_pos hR]
  unfold stW at h0 h1 ⊢
  unfold labelD
  rw [if_pos ⟨hR, h0, by omega⟩]
theorem nxG_stop (hR : rightD D = true) {w : List UInt8} {j : Nat} (h : stW D (w.take j) < 0) : ∀ d, nxG D w (j + d) = nxG D w j
  | 0 => rfl
  | d + 1 => by
    have e : w.take (j + d + 1) = w.take j ++ (w.drop j).take (d + 1) := by rw [show j + d + 1 = j + (d + 1) by omega, List.take_add]
    have hm : nxG D w (j + (d + 1)) = if 0 ≤ labW D (w.take (j + d + 1)) then (labW D (w.take (j + d + 1)), j + d + 1) else nxG D w (j + d) := rfl
    rw [hm, if_neg (by rw [e]; have := lab_stop hR (v := (w.drop j).take (d + 1)) h; omega)]
    exact nxG_stop hR h d
theorem nxG_all (hR : rightD D = true) {w : List UInt8} {j : Nat} (hj : j ≤ w.length) (h : stW D (w.take j) < 0) : nxP D w = nxG D w j := by
  have := nxG_stop hR h (w.length - j)
  rwa [show j + (w.length - j) = w.length by omega] at this
/-- one byte more -/
theorem nxG_more (w : List UInt8) (n : Nat) : nxG D w (n + 1) = if 0 ≤ labW D (w.take (n + 1)) then (labW D (w.take (n + 1)), n + 1) else nxG D w n := rfl
/-- joined, the first n + 1 pieces are the first n and the next -/
theorem join_more (l : List (Int × List UInt8)) (n : Nat) (p : Int × List UInt8) (h : l[n]? = some p) : joinP (l.take (n + 1)) = joinP (l.take n) ++ p.2 := by
  rw [List.take_add_one, h]
  simp [joinP]
end
end Go.Proofs.Ytgaadndhecokfaa

/- An object of slices that the call owns, each a row of its own: appended to one at a time. -/
namespace Go.Proofs.Ytgaadndhecokfaa
open Go.RowKit Go.Lib Go.Joins
/-- a row: the element's type and size, the slice, its length and cells -/
structure R5 where
  t : TypeId
  sz : Nat
  v : Value
  n : Nat
  xs : List Value
def R5.at (w : World) (base : Nat) (r : R5) : Prop := w.ownsRow base r.t r.sz r.v r.n r.xs
def away (u v : Value) : Prop := u.ownBlock = none ∨ u.ownBlock ≠ v.ownBlock
theorem away.symm {u v : Value} (h : away u v) : away v u := by
  unfold away at *
  cases hv : v.ownBlock with
  | none => exact .inl rfl
  | some x =>
    right
    intro e
    rcases h with h | h
    · rw [h] at e; cases e
    · exact h (by rw [hv, e])
/-- block NB holds the slices of rows rs, which lie apart -/
structure ObjR (w : World) (NB base : Nat) (T : TypeId) (rs : List R5) : Prop where
  obj : w.heap[NB]? = some (.cells (rs.map (·.v)).toArray T (0, 0))
  rows : ∀ r ∈ rs, r.at w base
  apart : rs.Pairwise fun r s => away r.v s.v
  out : ∀ r ∈ rs, r.v.ownBlock ≠ some NB
/-- a block of the object -/
def InO (NB : Nat) (rs : List R5) (k : Nat) : Prop := k = NB ∨ ∃ r ∈ rs, r.v.ownBlock = some k
section
variable {w w' : World} {NB base : Nat} {T : TypeId} {rs : List R5}
theorem ObjR.lt (h : ObjR w NB base T rs) : NB < w.heap.size := (Array.getElem?_eq_some_iff.1 h.obj).1
theorem ObjR.kept (h : ObjR w NB base T rs) (hb : Below w.heap.size w w') : ObjR w' NB base T rs :=
  ⟨(hb.block NB h.lt).trans h.obj, fun r hr => World.ownsRow.kept (row := none) (h.rows r hr) ⟨hb.os, hb.tape, hb.output, hb.size, fun k hk _ => hb.block k hk⟩ (by cases r.v.ownBlock <;> simp), h.apart, h.out⟩
theorem ObjR.cell (h : ObjR w NB base T rs) (i : Nat) : w.cell? ⟨NB, i, none⟩ = (rs.map (·.v))[i]? := by
  rw [cell_of_row w NB i _ _ _ h.obj, List.getElem?_toArray]
theorem ObjR.ltO (h : ObjR w NB base T rs) {k : Nat} (hk : InO NB rs k) : k < w.heap.size := by
  rcases hk with rfl | ⟨r, hr, e⟩
  · exact h.lt
  · exact ((h.rows r hr).lt k e).2
theorem away_at : ∀ {rs : List R5}, rs.Pairwise (fun r s => away r.v s.v) → ∀ i (hi : i < rs.length) j (hj : j < rs.length), i ≠ j → away rs[i].v rs[j].v := fun {rs} h i hi j hj hne => by
  rcases Nat.lt_or_gt_of_ne hne with hlt | hlt
  · exact List.pairwise_iff_getElem.1 h i j hi hj hlt
  · exact (List.pairwise_iff_getElem.1 h j i hj hi hlt).symm
/-- behind an append to row i, whose new slice is stored -/
theorem ObjR.put (h : ObjR w NB base T rs) (i : Nat) (hi : i < rs.length) (r' : R5) (hg : w.grownBy w' rs[i].v.ownBlock) (ho : r'.at w' base) (hat : r'.v.ownBlock = rs[i].v.ownBlock ∨ r'.v.ownBlock = some w.heap.size) :
    ObjR (w'.setCell ⟨NB, i, none⟩ r'.v) NB base T (rs.set i r') := by
  have hNB : w'.heap[NB]? = some (.cells (rs.map (·.v)).toArray T (0, 0)) := (hg.block NB h.lt (fun e => h.out _ (List.getElem_mem hi) e.symm)).trans h.obj
  have hnew : ∀ k, r'.v.ownBlock = some k → k ≠ NB := by
    intro k hk e
    subst e
    rcases hat with e | e
    · exact h.out _ (List.getElem_mem hi) (e ▸ hk)
    · rw [e] at hk
      have := h.lt
      simp only [Option.some.injEq] at hk
      omega
  have hgs : w'.grownBy (w'.setCell ⟨NB, i, none⟩ r'.v) (some NB) := ⟨rfl, rfl, rfl, by simp, fun k _ hk => heap_setCell_other _ _ _ _ (fun e => hk (by rw [e]))⟩
  have haw : ∀ j (hj : j < rs.length), j ≠ i → away r'.v rs[j].v := by
    intro j hj hne
    rcases hat with e | e
    · have := away_at h.apart i hi j hj (Ne.symm hne)
      unfold away at *
      rw [e]
      exact this
    · right
      rw [e]
      intro e2
      have := ((h.rows _ (List.getElem_mem hj)).lt _ e2.symm).2
      omega
  refine ⟨?_, ?_, ?_, ?_⟩
  · rw [heap_setCell_same _ _ _ _ _ _ hNB, List.map_set]
    simp
  · intro r hr
    obtain ⟨j, hj, rfl⟩ := List.getElem_of_mem hr
    rw [List.length_set] at hj
    rw [List.getElem_set]
    by_cases e : i = j
    · rw [if_pos e]
      exact World.ownsRow.kept ho hgs (by
        cases hv : r'.v.ownBlock with
        | none => exact .inl rfl
        | some k => exact .inr (fun e => hnew k hv (by simpa using e)))
    · rw [if_neg e]
      have h1 : (rs[j]).at w' base := World.ownsRow.kept (h.rows _ (List.getElem_mem hj)) hg (away_at h.apart j hj i hi (Ne.symm e))
      exact World.ownsRow.kept h1 hgs (.inr (h.out _ (List.getElem_mem hj)))
  · rw [List.pairwise_iff_getElem]
    intro a b ha hb hab
    rw [List.length_set] at ha hb
    rw [List.getElem_set, List.getElem_set]
    by_cases e1 : i = a
    · subst e1
      rw [if_pos rfl, if_neg (by omega)]
      exact haw b hb (by omega)
    · rw [if_neg e1]
      by_cases e2 : i = b
      · subst e2
        rw [if_pos rfl]
        exact (haw a ha (by omega)).symm
      · rw [if_neg e2]
        exact away_at h.apart a ha b hb (by omega)
  · intro r hr
    obtain ⟨j, hj, rfl⟩ := List.getElem_of_mem hr
    rw [List.length_set] at hj
    rw [List.getElem_set]
    by_cases e : i = j
    · rw [if_pos e]
      exact fun e => hnew NB e rfl
    · rw [if_neg e]
      exact h.out _ (List.getElem_mem hj)
/-- a block that is none of the object's stays none, and as it was -/
theorem InO.other (i : Nat) (hi : i < rs.length) (r' : R5) (hg : w.grownBy w' rs[i].v.ownBlock) (hat : r'.v.ownBlock = rs[i].v.ownBlock ∨ r'.v.ownBlock = some w.heap.size) {k : Nat} (hk : k < w.heap.size) (hn : ¬ InO NB rs k) :
    (w'.setCell ⟨NB, i, none⟩ r'.v).heap[k]? = w.heap[k]? ∧ ¬ InO NB (rs.set i r') k := by
  have h1 : k ≠ NB := fun e => hn (.inl e)
  have h2 : ∀ r ∈ rs, r.v.ownBlock ≠ some k := fun r hr e => hn (.inr ⟨r, hr, e⟩)
  refine ⟨(heap_setCell_other _ _ _ _ h1).trans (hg.block k hk (fun e => h2 _ (List.getElem_mem hi) e.symm)), ?_⟩
  rintro (e | ⟨r, hr, e⟩)
  · exact h1 e
  · rcases List.mem_or_eq_of_mem_set hr with hr | rfl
    · exact h2 r hr e
    · rcases hat with e2 | e2
      · exact h2 _ (List.getElem_mem hi) (e2.symm.trans e)
      · rw [e2] at e
        simp only [Option.some.injEq] at e
        omega
end
end Go.Proofs.Ytgaadndhecokfaa
