/- 'PlaceBack' answers true for every text: each place has a line and a column that lead back to it, and no other place has them; the lines, put behind one another, are the text; and the chapter's examples hold. Conditions: none. -/
import Derived.Test.YtekpbhfbojijiaaPlaceOf
namespace Go.Proofs.Ytekpbhfbojijiaa.lawPlaceBack
open Go.ChangeShapes Go.WideShapes Go.ChangeAt Go.RowKit
open Go.ChangeMaps (open_string shut_string)

/-- what stands in 'was' ahead of place k -/
def was (l : List UInt8) (k : Nat) : Int × Int := if k = 0 then (0, 0) else (lineAt l (k - 1), colAt l (k - 1))
theorem was_next (l : List UInt8) (k : Nat) : was l (k + 1) = ((lineAt l k : Int), (colAt l k : Int)) := rfl
theorem lineAt_le (l : List UInt8) (x : Nat) : lineAt l x ≤ l.count 10 + 1 := Nat.succ_le_succ (List.Sublist.count_le _ (List.take_sublist _ _))
theorem was_facts {l : List UInt8} {k : Nat} (hk : k ≤ l.length) : ((lineAt l k : Int) ≠ (was l k).1 ∨ (colAt l k : Int) ≠ (was l k).2) ∧ (was l k).1 ≤ lineAt l k := by
  by_cases h : k = 0
  · subst h
    refine ⟨.inl ?_, ?_⟩
    · show (lineAt l 0 : Int) ≠ 0
      unfold lineAt
      omega
    · show (0 : Int) ≤ lineAt l 0
      omega
  · obtain ⟨m, rfl⟩ : ∃ m, k = m + 1 := ⟨k - 1, by omega⟩
    rw [was_next]
    refine ⟨?_, ?_⟩
    · have h1 := ofV_at (l := l) (x := m + 1) hk
      have h2 := ofV_at (l := l) (x := m) (by omega)
      by_cases e1 : (lineAt l (m + 1) : Int) = lineAt l m
      · right
        intro e2
        rw [e1, e2, h2] at h1
        simp at h1
        omega
      · exact .inl e1
    · show (lineAt l m : Int) ≤ lineAt l (m + 1)
      unfold lineAt
      rw [take_step]
      omega
/-- how much of the text the first lines are -/
def upto (l : List UInt8) (k : Nat) : Nat := if k = 0 then 0 else ((cutsAux l 0).getD (k - 1) (0, 0)).2
theorem upto_at {l : List UInt8} {k a b : Nat} (h : (cutsAux l 0)[k]? = some (a, b)) : upto l (k + 1) = b := by
  unfold upto
  rw [if_neg (by omega), Nat.add_sub_cancel, List.getD_eq_getElem?_getD, h]
  rfl
theorem upto_first {l : List UInt8} {a b : Nat} (h : (cutsAux l 0)[0]? = some (a, b)) : a = 0 := by
  obtain ⟨b', t, e⟩ := cuts_head l 0
  rw [e] at h
  simp at h
  exact h.1.symm
theorem upto_next {l : List UInt8} {k a b : Nat} (hk : 0 < k) (h : (cutsAux l 0)[k]? = some (a, b)) : a = upto l k + 1 ∧ l[upto l k]? = some 10 := by
  obtain ⟨m, rfl⟩ : ∃ m, k = m + 1 := ⟨k - 1, by omega⟩
  have hlt : m < (cutsAux l 0).length := by
    have := (List.getElem?_eq_some_iff.1 h).1
    omega
  obtain ⟨⟨a0, b0⟩, e⟩ : ∃ p, (cutsAux l 0)[m]? = some p := ⟨_, List.getElem?_eq_getElem hlt⟩
  rw [upto_at e]
  exact cut_next l e h
theorem upto_last (l : List UInt8) : upto l (l.count 10 + 1) = l.length := by
  have hlt : l.count 10 < (cutsAux l 0).length := by rw [cuts_len]; omega
  obtain ⟨⟨a0, b0⟩, e⟩ : ∃ p, (cutsAux l 0)[l.count 10]? = some p := ⟨_, List.getElem?_eq_getElem hlt⟩
  rw [upto_at e]
  exact cut_last l e
theorem part_app (s : ByteArray) (a b : Nat) (h : a ≤ b) : s.extract 0 a ++ s.extract a b = s.extract 0 b := by
  apply Go.WideShapes.bytes_inj
  rw [ByteArray.data_append, Array.toList_append, part_list, part_list, part_list]
  simp only [Nat.sub_zero, List.drop_zero]
  rw [show b = a + (b - a) by omega, List.take_add, show a + (b - a) - a = b - a by omega]
theorem part_feed (s : ByteArray) (a : Nat) (h : s.data.toList[a]? = some 10) : s.extract 0 a ++ ⟨#[10]⟩ = s.extract 0 (a + 1) := by
  apply Go.WideShapes.bytes_inj
  rw [ByteArray.data_append, Array.toList_append, part_list, part_list]
  simp only [Nat.sub_zero, List.drop_zero]
  rw [List.take_add_one, h]
  rfl
theorem part_none (s : ByteArray) : s.extract 0 0 = ⟨#[]⟩ := by
  apply ByteArray.ext
  simp
theorem part_all (s : ByteArray) : s.extract 0 s.size = s := by
  apply ByteArray.ext
  simp

theorem line_ok (s : ByteArray) (n : Int) (a b : Nat) (w : World) (hs : s.size ≤ 1000000) (h : Hid (lineV s.data.toList n = ((a, b), true))) :
    Calls Try.prog 13 #[.string s, .int .i64 n] w fun e w' => e = .returned (.tuple #[.string (s.extract a b), .bool true]) ∧ Below w.heap.size w w' :=
  (line_calls s n w hs).mono fun e w' ⟨he, hb⟩ => ⟨he.trans (by rw [h.out]; rfl), hb⟩
theorem of_ok (s : ByteArray) (k L C : Nat) (w : World) (hs : s.size ≤ 1000000) (hk : k ≤ s.size) (h : Hid (lineAt s.data.toList k = L ∧ colAt s.data.toList k = C)) :
    Calls Try.prog 11 #[.string s, .agg #[.int .i64 L, .int .i64 C]] w fun e w' => e = .returned (.tuple #[.int .i64 k, .bool true]) ∧ Below w.heap.size w w' := by
  have hC : C ≤ 1000001 := by
    rw [← h.out.2]
    unfold colAt
    omega
  refine (of_calls s L C w hs (by omega)).mono fun e w' ⟨he, hb⟩ => ⟨he.trans ?_, hb⟩
  rw [← h.out.1, ← h.out.2, ofV_at (by simpa using hk)]
  rfl
theorem at_ok (s : ByteArray) (k L C : Nat) (w : World) (hs : s.size ≤ 1000000) (hk : k ≤ s.size) (h : Hid (lineAt s.data.toList k = L ∧ colAt s.data.toList k = C)) :
    Calls Try.prog 9 #[.string s, .int .i64 k] w fun e w' => e = .returned (.tuple #[.agg #[.int .i64 L, .int .i64 C], .bool true]) ∧ Below w.heap.size w w' := by
  rw [← h.out.1, ← h.out.2]
  exact at_calls s k w hs hk

set_option maxHeartbeats 4000000 in
set_option maxRecDepth 100000 in
theorem walk (s : ByteArray) (w : World) (_ : s.size ≤ maxLen) :
    Calls Try.prog 6 #[.string s] w fun e w' => e = .returned (.bool true) ∧ Below w.heap.size w w' := by
  by_cases hlen : 200 < s.size
  · go_enter Try.func6, Try.ntmps6
    go_wp2_with fail
    refine (knows_calls _).mono ?_
    rintro e w1 ⟨rfl, hb1⟩
    go_wp2
    go_ret
    exact ⟨rfl, hb1⟩
  · have hs : s.size ≤ 1000000 := by omega
    have n1 := hidden (fun W => lines_calls s W hs)
    have hle := hidden (lineAt_le s.data.toList)
    have hwf := hidden (fun k h => was_facts (l := s.data.toList) (k := k) h)
    have hnx := hidden (was_next s.data.toList)
    have hcount : s.data.toList.count 10 ≤ s.size := by rw [← list_len s]; exact List.count_le_length
    generalize hm : s.data.toList.count 10 = m at *
    have HM := hidden hm
    clear hm
    go_enter Try.func6, Try.ntmps6
    go_wp2
    go_loopw [4] (fun i wr => ∃ k : Nat, k ≤ s.size + 1 ∧ i = .int .i64 k ∧ PairAt 23 wr w.heap.size (was s.data.toList k).1 (was s.data.toList k).2 ∧ Below w.heap.size w wr) (fun i _ => s.size + 1 - (intOf i).toNat)
    case atStart => exact ⟨0, by omega, rfl, PairAt.new _ _ _ _, by go_grown⟩
    case round =>
      obtain ⟨k, hk, rfl, hp, hb⟩ := hrel
      have HP := hidden hp
      have HB := hidden hb
      have hlt0 := hp.lt
      clear hp hb
      by_cases hlt : k ≤ s.size
      · obtain ⟨L, hL⟩ : ∃ L, lineAt s.data.toList k = L := ⟨_, rfl⟩
        obtain ⟨C, hC⟩ : ∃ C, colAt s.data.toList k = C := ⟨_, rfl⟩
        have hLC := hidden (And.intro hL hC)
        have hnk := hnx.out k
        have hlk := hle.out k
        obtain ⟨g1, g2⟩ := hwf.out k (by simpa using hlt)
        rw [hL] at g1 g2 hnk hlk
        rw [hC] at g1 hnk
        clear hL hC
        generalize was s.data.toList k = x at *
        obtain ⟨x, y⟩ := x
        simp only at g1 g2
        have HN := hidden hnk
        clear hnk
        go_wp2_with fail
        refine (at_ok s k L C _ hs hlt hLC).mono ?_
        rintro e w1 ⟨rfl, hb1⟩
        have p1 := HP.out.below hb1
        have hB1 := hidden (below_after HB.out hb1)
        have hs1 := p1.lt
        clear hb1
        go_wp2_with fail
        refine (of_ok s k L C _ hs hlt hLC).mono ?_
        rintro e w2 ⟨rfl, hb2⟩
        have p2 := p1.alloc (.cells #[.int .i64 L, .int .i64 C] 23)
        have q2 := PairAt.new 23 w1 L C
        have p3 := p2.below hb2
        have q3 := q2.below hb2
        have hB2 := hidden (below_then (hB1.out.alloc (by omega) (.cells #[.int .i64 L, .int .i64 C] 23)) (by simp; omega) hb2)
        have hs2 := q3.lt
        have hp2 := p3.lt
        clear hb2 p1 p2 q2
        have P3 := hidden p3
        have Q3 := hidden q3
        have hd1 : decide ((L : Int) < x) = false := by simp; omega
        have hd2 : decide ((m : Int) + 1 < (L : Int)) = false := by simp; omega
        have ge : (((L : Int) == x) = false) ∨ ((L : Int) = x ∧ ((C : Int) == y) = false) := by
          by_cases e : (L : Int) = x
          · right
            refine ⟨e, ?_⟩
            rcases g1 with g1 | g1
            · exact absurd e g1
            · simpa using g1
          · left
            simpa using e
        clear g1 g2 hlk
        rcases ge with ge | ⟨rfl, ge⟩
        all_goals
          have p0 := P3.out.later0
          have p1 := P3.out.later1
          have q0 := Q3.out.later0
          have q1 := Q3.out.later1
          clear p3 q3
          go_wp2
          refine wp_region_later (by kernel_rfl) (by kernel_rfl) ?_
          repeat (go_big_quiet_step (exact Later.same (n1.out _)))
          refine wpQuiet_nil ?_
          rintro _ ⟨⟨w3, hb3⟩, rfl⟩
          clear p0 p1 q0 q1
          obtain ⟨c0, c1, f0, f1⟩ := (P3.out.below hb3).facts
          obtain ⟨d0, d1, _, _⟩ := (Q3.out.below hb3).facts
          go_wp2
          refine ⟨⟨k + 1, by omega, by go_num, ?_, below_two (below_then hB2.out (by omega) hb3) _ (Nat.le_refl _) _ _⟩, by simp [intOf]; omega⟩
          rw [HN.out]
          exact (P3.out.below hb3).stored _ _
      · have hgt : s.size < k := by omega
        have hdk : decide (k ≤ s.size) = false := by simp; omega
        clear HP hwf hnx hle hlt hk
        have ht : (s.toList == s.toList) = true := text_same s
        have HT := hidden (show upto s.data.toList (m + 1) = s.size by rw [← HM.out, upto_last]; simp)
        have HU := hidden (show ∀ i : Nat, i ≤ m → ∃ a b, lineV s.data.toList ((i : Int) + 1) = ((a, b), true) ∧ a ≤ b ∧ b ≤ s.size ∧ upto s.data.toList (i + 1) = b ∧ (i = 0 → a = 0) ∧ (0 < i → a = upto s.data.toList i + 1 ∧ s.data.toList[upto s.data.toList i]? = some 10) from fun i hi => by
          obtain ⟨a, b, hcut, hl, hab, hbl, _⟩ := lineV_some (l := s.data.toList) (n := (i : Int) + 1) (by omega) (by rw [HM.out]; omega)
          rw [show ((i : Int) + 1 - 1).toNat = i by omega] at hcut
          refine ⟨a, b, hl, hab, by rwa [list_len] at hbl, upto_at hcut, fun h0 => ?_, fun h0 => upto_next h0 hcut⟩
          subst h0
          exact upto_first hcut)
        have HA := hidden (part_app s)
        have HF := hidden (part_feed s)
        have HE := hidden (part_none s)
        have HZ := hidden (part_all s)
        generalize upto s.data.toList = U at *
        go_wp2
        go_loopw [9, 10] (fun t i wr => ∃ k : Nat, k ≤ m + 1 ∧ i = .int .i64 ((k : Int) + 1) ∧ t = .string (s.extract 0 (if k = 0 then 0 else U k)) ∧ Below w.heap.size w wr) (fun _ i _ => m + 2 - (intOf i).toNat)
        case atStart =>
          refine ⟨0, by omega, rfl, ?_, HB.out⟩
          rw [if_pos rfl, HE.out]
        case round =>
          obtain ⟨j, hj, rfl, rfl, hb⟩ := hrel
          have HB3 := hidden hb
          clear hb
          by_cases hlt : j ≤ m
          · obtain ⟨a, b, hl, hab, _, hu, ha0, ha1⟩ := HU.out j hlt
            have hl' := hidden hl
            have hu' := hidden hu
            clear hl hu
            by_cases h0 : j = 0
            · subst h0
              obtain rfl := ha0 rfl
              clear ha0 ha1
              rw [if_pos rfl, HE.out]
              go_wp2_with fail
              refine (n1.out _).mono ?_
              rintro e w' ⟨rfl, rfl⟩
              go_wp2_with fail
              refine (line_ok s 1 0 b _ hs hl').mono ?_
              rintro e w' ⟨rfl, hb1⟩
              go_wp2
              refine ⟨⟨1, by omega, rfl, ?_, below_after HB3.out hb1⟩, by simp [intOf]⟩
              rw [if_neg (by omega), show U 1 = b from hu'.out, ← HE.out, HA.out 0 b (Nat.zero_le _)]
            · obtain ⟨rfl, hfeed⟩ := ha1 (by omega)
              clear ha0 ha1
              rw [if_neg h0]
              have hf := hidden (HF.out _ hfeed)
              have hap := hidden (HA.out _ b hab)
              clear hfeed
              go_wp2_with fail
              refine (n1.out _).mono ?_
              rintro e w' ⟨rfl, rfl⟩
              go_wp2_with fail
              refine (line_ok s _ _ b _ hs hl').mono ?_
              rintro e w' ⟨rfl, hb1⟩
              go_wp2
              refine ⟨⟨j + 1, by omega, by go_num, ?_, below_after HB3.out hb1⟩, by simp [intOf]; omega⟩
              rw [if_neg (by omega), hu'.out, hf.out, hap.out]
          · obtain rfl : j = m + 1 := by omega
            rw [if_neg (by omega), HT.out, HZ.out]
            go_wp2_with fail
            refine (n1.out _).mono ?_
            rintro e w' ⟨rfl, rfl⟩
            go_wp2_with fail
            refine (knows_calls _).mono ?_
            rintro e w7 ⟨rfl, hb7⟩
            go_wp2
            go_ret
            exact ⟨rfl, below_after HB3.out hb7⟩

set_option maxRecDepth 100000 in
theorem lifted (os : Os) (started : os.Started) (H : Type) (enc : TypeId × Value → H) :
    ReturnsInHanded {} Try.checked os 6 .any (Rows.placeBackSpec.pre6 enc Try.prog Try.f6 Rows.placeBackRow.domain false) (Rows.placeBackSpec.post enc Try.prog Try.f6 false true false false) := by
  refine returnsInHanded_of_change (C := Try.checked) own started (by kernel_rfl) Try.func6
    (ChangeSpec.witness6 (enc := enc) (C := Try.checked) false ⟨#[], #[.string ⟨#[]⟩], []⟩ 8 (by kernel_rfl) (by kernel_rfl) (by kernel_rfl) (by kernel_rfl)) ?_
  intro W base args ds gs before hval0 hW hcnd _
  have hval : ∀ (j : Nat) t v, Try.f6.params[j]? = some t → args[j]? = some v → Value.okWide Try.prog W .any base t v := hval0
  have hW' : DataW.Whole enc Try.prog Try.f6.params.toList Rows.placeBackSpec.vars false W args.toList ds gs before := hW
  obtain ⟨p, q, hA0, hV, rfl, hfz, hnd⟩ := hW
  have hA : DataW.TrodAll enc Try.prog W 0 (fun _ => true) true Try.f6.params.toList args.toList ds p := hA0
  have hlt : ∀ x ∈ p, x.block < W.heap.size := fun x hx => hW'.lt x (List.mem_append_left _ hx)
  rw [Try.params6] at hA hval
  obtain ⟨v0, vs0, d0, ds0, p0, q0, hargs, hd0, hp0, h0, r0⟩ := trodAll_cons hA
  obtain ⟨rfl, _, _⟩ := trodAll_nil r0
  obtain rfl : args = #[v0] := by cases args; simp_all
  obtain ⟨a0, rfl, _, _, w0⟩ := open_string Try.underlying9 (hval 0 9 v0 rfl rfl) h0
  refine (walk a0 W w0).mono fun e W' ⟨he, hb⟩ => ⟨_, he, ends_true hW' rfl (by kernel_rfl) ?_ (by kernel_rfl) hb⟩
  intro xs hxs
  match xs, hxs with
  | [_], _ => rfl

theorem proved : Rows.PlaceBackSaid :=
  OpenClaim.holds_of_wide 6 Try.f6 rfl rfl rfl rfl rfl rfl rfl ⟨rfl, rfl, rfl, rfl, rfl⟩ rfl rfl rfl rfl rfl (by kernel_rfl) Try.func6 (by kernel_rfl)
    (of_decide_eq_true (by kernel_rfl)) (by unfold Func.isWrapper; first | (rw [if_pos (by decide +kernel)]; kernel_rfl) | (rw [if_neg (by decide +kernel)]; exact ⟨rfl, rfl⟩))
    (fun os started H enc _ => lifted os started H enc)
end Go.Proofs.Ytekpbhfbojijiaa.lawPlaceBack
