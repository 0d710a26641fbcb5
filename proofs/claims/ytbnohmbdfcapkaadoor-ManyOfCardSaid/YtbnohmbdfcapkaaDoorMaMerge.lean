/- Contract of merge: whatever it is to do with each number, as long as that keeps what it keeps. -/
import Derived.Test.YtbnohmbdfcapkaaDoorMaRow
import Derived.Test.YtbnohmbdfcapkaaDoorShelf
import Derived.Test.YtbnohmbdfcapkaaDoorLater
import Derived.StillTailTactics
namespace Go.Proofs.YtbnohmbdfcapkaaDoor
open Go.RowKit Go.Lib Go.Joins

/-- the block of what is to be done -/
def DoAt (w : World) (g : Nat) (v1 v2 v3 : Value) : Prop := w.heap[g]? = some (.cells #[v1, v2, v3] 37 (0, 0))
/-- what a call of one of these keeps: blocks of that type -/
def Keep (w w' : World) : Prop := w.heap.size ≤ w'.heap.size ∧ ∀ (k : Nat) (cs : Array Value) (fr : Nat × Nat), w.heap[k]? = some (.cells cs 37 fr) → w'.heap[k]? = w.heap[k]?
theorem Keep.refl (w : World) : Keep w w := ⟨Nat.le_refl _, fun _ _ _ _ => rfl⟩
theorem DoAt.kept {w w' : World} {g : Nat} {v1 v2 v3 : Value} (h : DoAt w g v1 v2 v3) (hk : Keep w w') : DoAt w' g v1 v2 v3 := (hk.2 g _ _ h).trans h
theorem DoAt.cells {w : World} {g : Nat} {v1 v2 v3 : Value} (h : DoAt w g v1 v2 v3) : w.cell? ⟨g, 0, none⟩ = some v1 ∧ w.cell? ⟨g, 1, none⟩ = some v2 ∧ w.cell? ⟨g, 2, none⟩ = some v3 ∧ g < w.heap.size :=
  ⟨cell_of_row w g 0 _ _ _ h, cell_of_row w g 1 _ _ _ h, cell_of_row w g 2 _ _ _ h, (Array.getElem?_eq_some_iff.1 h).1⟩
theorem Later.same2 {P : Program} {f : FuncId} {args : Array Value} {w : World} {p : Later w} {v : Value}
    (h : Calls P f args p.at' fun e w' => e = .returned v ∧ w' = p.at') : Calls P f args p.at' fun e w'' => e = .returned v ∧ ∃ q : Later w, w'' = q.at' :=
  h.mono fun _ _ ⟨he, hb⟩ => ⟨he, p, hb⟩
def lenV : Value → Nat
  | .slice _ n _ => n
  | _ => 0
/-- a slice behind its first number -/
theorem RdZ.tail {B : Nat} {w : World} {b off n cap : Nat} {x : Int} {l : List Int} (h : RdZ B w (.slice (some ⟨b, off, none⟩) n cap) (x :: l)) :
    n = l.length + 1 ∧ b < B ∧ w.cell? ⟨b, off, none⟩ = some (.int .i64 x) ∧ n ≤ cap ∧ cap ≤ maxLen ∧ (cap = 1 → RdZ B w (.slice (some ⟨b, off, none⟩) 0 0) l) ∧ (1 < cap → RdZ B w (.slice (some ⟨b, off + 1, none⟩) l.length (cap - 1)) l) := by
  obtain ⟨a, c, e, h1, h2, h3, h4⟩ := h
  simp only [Value.slice.injEq] at e
  obtain ⟨rfl, rfl, rfl⟩ := e
  obtain ⟨b', off', e, hlt, hc⟩ := h4 (by simp)
  simp only [Option.some.injEq, Addr.mk.injEq, and_true] at e
  obtain ⟨rfl, rfl⟩ := e
  simp only [List.length_cons] at h1
  refine ⟨rfl, hlt, by simpa using hc 0 (by simp), h1, h2, fun hc1 => ?_, fun hc1 => ?_⟩
  · have : l = [] := List.eq_nil_of_length_eq_zero (by omega)
    subst this
    exact ⟨_, 0, rfl, Nat.le_refl _, by decide, (fun e => by cases e), fun hp => absurd hp (by simp)⟩
  · refine ⟨_, cap - 1, rfl, by omega, by omega, (fun e => by cases e), fun _ => ⟨b, off + 1, rfl, hlt, fun i hi => ?_⟩⟩
    have := hc (i + 1) (by simp only [List.length_cons]; omega)
    rw [show off + 1 + i = off + (i + 1) by omega]
    simpa using this
theorem RdZ.head {B : Nat} {w : World} {v : Value} {x : Int} {l : List Int} (h : RdZ B w v (x :: l)) : ∃ b off cap, v = .slice (some ⟨b, off, none⟩) (l.length + 1) cap := by
  obtain ⟨a, c, rfl, _, _, _, h4⟩ := h
  obtain ⟨b, off, rfl, _⟩ := h4 (by simp)
  exact ⟨b, off, c, rfl⟩
theorem RdZ.at {B : Nat} {w : World} {a : Option Addr} {n c : Nat} {l : List Int} (h : RdZ B w (.slice a n c) l) (k : Nat) (hk : k < l.length) : ∃ b off, a = some ⟨b, off, none⟩ ∧ b < B ∧ w.cell? ⟨b, off + k, none⟩ = some (.int .i64 (l.getD k 0)) := by
  obtain ⟨a', c', e, _, _, _, h4⟩ := h
  simp only [Value.slice.injEq] at e
  obtain ⟨rfl, _, _⟩ := e
  obtain ⟨b, off, e, hlt, hc⟩ := h4 (by omega)
  exact ⟨b, off, e, hlt, hc k hk⟩
theorem rdz_drop {l : List Int} {k : Nat} (h : k < l.length) (t : Nat) : (l.drop k).map (fun y => (t, y)) = (t, l.getD k 0) :: (l.drop (k + 1)).map (fun y => (t, y)) := by
  rw [List.drop_eq_getElem_cons h, List.map_cons, List.getD_eq_getElem?_getD, List.getElem?_eq_getElem h]
  rfl
theorem cmp_lt {x y : Int} (h : x < y) : Lib.compareInt x y = -1 := by unfold Lib.compareInt; simp [h]
theorem cmp_eq (x : Int) : Lib.compareInt x x = 0 := by unfold Lib.compareInt; simp
theorem cmp_gt {x y : Int} (h : y < x) : Lib.compareInt x y = 1 := by
  unfold Lib.compareInt
  have h1 : ¬ x < y := by omega
  simp [h1, h]
set_option maxHeartbeats 16000000 in
set_option maxRecDepth 100000 in
theorem merge_calls {B : Nat} {w : World} {va vb : Value} {xs ys : List Int} {f1 f2 f3 : FuncId} {c1 c2 c3 : Array Value} (J : List (Nat × Int) → World → Prop) (ha : RdZ B w va xs) (hb : RdZ B w vb ys) (hB : B ≤ w.heap.size)
    (e1 : ∀ args w, (callFunc f1 args).run Tryd.prog w = .ok (.enter f1 args) w) (e2 : ∀ args w, (callFunc f2 args).run Tryd.prog w = .ok (.enter f2 args) w) (e3 : ∀ args w, (callFunc f3 args).run Tryd.prog w = .ok (.enter f3 args) w)
    (hJ0 : J [] w) (hJb : ∀ D w1 w2, J D w1 → Below w1.heap.size w1 w2 → J D w2) (hJB : ∀ D w1, J D w1 → Below B w w1)
    (H1 : ∀ D w1 (x : Int), J D w1 → D.length < xs.length + ys.length → Calls Tryd.prog f1 (#[.int .i64 x] ++ c1) w1 fun e w2 => e = .returned (.tuple #[]) ∧ J (D ++ [(0, x)]) w2 ∧ Keep w1 w2)
    (H2 : ∀ D w1 (x : Int), J D w1 → D.length < xs.length + ys.length → Calls Tryd.prog f2 (#[.int .i64 x] ++ c2) w1 fun e w2 => e = .returned (.tuple #[]) ∧ J (D ++ [(1, x)]) w2 ∧ Keep w1 w2)
    (H3 : ∀ D w1 (x : Int), J D w1 → D.length < xs.length + ys.length → Calls Tryd.prog f3 (#[.int .i64 x] ++ c3) w1 fun e w2 => e = .returned (.tuple #[]) ∧ J (D ++ [(2, x)]) w2 ∧ Keep w1 w2) :
    Calls Tryd.prog 20 #[va, vb, .agg #[.func (.func f1) #[] c1, .func (.func f2) #[] c2, .func (.func f3) #[] c3]] w fun e w' => e = .returned (.tuple #[]) ∧ J (evs xs ys) w' := by
  have HLE := hidden (evs_len _ xs ys (Nat.le_refl _))
  obtain ⟨E, hE⟩ : ∃ E, E = evs xs ys := ⟨_, rfl⟩
  rw [← hE] at HLE ⊢
  obtain ⟨v1, hv1⟩ : ∃ v1, v1 = Value.func (.func f1) #[] c1 := ⟨_, rfl⟩
  obtain ⟨v2, hv2⟩ : ∃ v2, v2 = Value.func (.func f2) #[] c2 := ⟨_, rfl⟩
  obtain ⟨v3, hv3⟩ : ∃ v3, v3 = Value.func (.func f3) #[] c3 := ⟨_, rfl⟩
  have HAL := hidden ((Below.refl w.heap.size w).alloc (Nat.le_refl _) (.cells #[v1, v2, v3] 37))
  have HJ0 := hidden (hJb _ _ _ hJ0 HAL.out)
  have HA0 := hidden ha
  have HB0 := hidden hb
  have HBW := hidden hB
  have HD0 := hidden (show DoAt (w.alloc (.cells #[v1, v2, v3] 37)) w.heap.size v1 v2 v3 from heap_alloc_new w _)
  have HJB := hidden hJB
  have HJb := hidden hJb
  have H1 := hidden H1
  have H2 := hidden H2
  have H3 := hidden H3
  obtain ⟨a0, k0, rfl⟩ := ha.form
  obtain ⟨b0, m0, rfl⟩ := hb.form
  have HE := hidden hE.symm
  rw [← hv1, ← hv2, ← hv3]
  have HV1 := hidden hv1
  have HV2 := hidden hv2
  have HV3 := hidden hv3
  have hxl : xs.length ≤ maxLen := by obtain ⟨_, _, _, h1, h2, _⟩ := ha; omega
  have hyl : ys.length ≤ maxLen := by obtain ⟨_, _, _, h1, h2, _⟩ := hb; omega
  unfold maxLen at hxl hyl
  clear ha hb hB hJ0 hJb hJB hE hv1 hv2 hv3
  go_enter Tryd.func20, Tryd.ntmps20
  go_wp2
  go_loopw [0, 1, 6, 36, 47] (fun pa pb _ _ _ wr => ∃ (a2 b2 : List Int) (D : List (Nat × Int)) (ta : Option Addr) (na ca : Nat) (tb : Option Addr) (nb cb : Nat), pa = .slice ta na ca ∧ pb = .slice tb nb cb ∧ Hid (na = a2.length) ∧ Hid (nb = b2.length) ∧ na ≤ xs.length ∧ nb ≤ ys.length ∧ RdZ B w (.slice ta na ca) a2 ∧ RdZ B w (.slice tb nb cb) b2 ∧ J D wr ∧ DoAt wr w.heap.size v1 v2 v3 ∧ Hid (D ++ evs a2 b2 = E)) (fun pa pb _ _ _ _ => lenV pa + lenV pb)
  case atStart => exact ⟨xs, ys, [], _, _, _, _, _, _, rfl, rfl, hidden rfl, hidden rfl, Nat.le_refl _, Nat.le_refl _, HA0.out, HB0.out, HJ0.out, HD0.out, HE⟩
  case round =>
    obtain ⟨a2, b2, D, ta, na, ca, tb, nb, cb, rfl, rfl, hna, hnb, hnax, hnbx, hra, hrb, hj, hd, he⟩ := hrel
    have HRA := hidden hra
    have HRB := hidden hrb
    have HJ := hidden hj
    have HD := hidden hd
    have HBE := hidden (HJB.out _ _ hj)
    have HNA := hna
    have HNB := hnb
    clear hra hrb hj hd hna hnb
    by_cases hem : a2 = [] ∨ b2 = []
    · have HEE := hidden (show D ++ ((a2.map fun y => (0, y)) ++ b2.map fun y => (2, y)) = E from by rw [← evs_end hem]; exact he.out)
      have HAA := hidden (fun k (hk : k < na) => HRA.out.at k (by rw [← HNA.out]; exact hk))
      have HBB := hidden (fun k (hk : k < nb) => HRB.out.at k (by rw [← HNB.out]; exact hk))
      have hcs : na = 0 ∨ (0 < na ∧ nb = 0) := by
        rcases hem with h | h
        · left; rw [HNA.out, h]; rfl
        · by_cases h0 : na = 0
          · exact .inl h0
          · right; exact ⟨by omega, by rw [HNB.out, h]; rfl⟩
      clear hem he
      have hna0 := hidden (Nat.le_refl na)
      rcases hcs with hc0 | ⟨hc0, hc1⟩
      case' inl =>
        have hp1 : decide ((0 : Int) < (na : Int)) = false := decide_eq_false (by omega)
        have hp1' : decide (0 < na) = false := decide_eq_false (by omega)
        clear hc0
      case' inr =>
        have hp1 : decide ((0 : Int) < (na : Int)) = true := decide_eq_true (by omega)
        have hp1' : decide (0 < na) = true := decide_eq_true (by omega)
        have hp2 : decide ((0 : Int) < (nb : Int)) = false := decide_eq_false (by omega)
        have hp2' : decide (0 < nb) = false := decide_eq_false (by omega)
        clear hc0 hc1
      all_goals
        go_wp2
        go_loopw [8, 60] (fun _ i wr2 => ∃ (k : Nat) (D2 : List (Nat × Int)), k ≤ na ∧ i = .int .i64 k ∧ J D2 wr2 ∧ DoAt wr2 w.heap.size v1 v2 v3 ∧ Hid (D2 ++ (((a2.drop k).map fun y => (0, y)) ++ b2.map fun y => (2, y)) = E)) (fun _ i _ => na - (intOf i).toNat)
        case atStart => exact ⟨0, D, by omega, rfl, HJ.out, HD.out, by rw [List.drop_zero]; exact HEE⟩
        case round =>
          obtain ⟨k, D2, hk, rfl, hj2, hd2, he2⟩ := hrel
          have HJ2 := hidden hj2
          have HD2 := hidden hd2
          have HB2 := hidden (HJB.out _ _ hj2)
          clear hj2 hd2
          by_cases hlt : k < na
          · obtain ⟨b, off, rfl, hbB, hcell⟩ := HAA.out k hlt
            have c0 := (HB2.out.cell (p := ⟨b, off + k, none⟩) hbB).trans hcell
            obtain ⟨d0, d1, d2, dl⟩ := HD2.out.cells
            rw [HV1.out] at d0
            have HS := hidden (rdz_drop (l := a2) (k := k) (by rw [← HNA.out]; exact hlt) 0)
            generalize a2.getD k 0 = x at *
            have HEN := hidden (show (D2 ++ [(0, x)]) ++ (((a2.drop (k + 1)).map fun y => (0, y)) ++ b2.map fun y => (2, y)) = E from by have h := he2.out; rw [HS.out] at h; rw [← h, List.append_assoc]; rfl)
            have HDL := hidden (show D2.length < xs.length + ys.length from by
              have h1 := congrArg List.length HEN.out
              have h2 := HLE.out
              simp only [List.length_append, List.length_cons, List.length_nil] at h1
              omega)
            have HLT := hidden hlt
            clear hcell HS
            go_wp2_with fail
            refine (H1.out D2 _ x HJ2.out HDL.out).mono ?_
            rintro e w5 ⟨rfl, hj5, hk5⟩
            have HJ5 := hidden hj5
            have HD5 := hidden (HD2.out.kept hk5)
            clear hj5 hk5 d0 d1 d2 dl c0
            go_wp2
            have hlt' := HLT.out
            go_roundw
            case rel => exact ⟨k + 1, _, by omega, by go_num, HJ5.out, HD5.out, HEN⟩
            case measure => simp [intOf]; omega
          · have HE3 := hidden (show D2 ++ (b2.map fun y => (2, y)) = E from by
              have h := he2.out
              rw [List.drop_eq_nil_of_le (by rw [← HNA.out]; omega)] at h
              exact h)
            clear he2
            go_wp2
            go_loopw [10, 71] (fun _ i wr2 => ∃ (k : Nat) (D2 : List (Nat × Int)), k ≤ nb ∧ i = .int .i64 k ∧ J D2 wr2 ∧ DoAt wr2 w.heap.size v1 v2 v3 ∧ Hid (D2 ++ ((b2.drop k).map fun y => (2, y)) = E)) (fun _ i _ => nb - (intOf i).toNat)
            case atStart => exact ⟨0, D2, by omega, rfl, HJ2.out, HD2.out, by rw [List.drop_zero]; exact HE3⟩
            case round =>
              obtain ⟨m, D3, hm, rfl, hj3, hd3, he3⟩ := hrel
              have HJ3 := hidden hj3
              have HD3 := hidden hd3
              have HB3 := hidden (HJB.out _ _ hj3)
              clear hj3 hd3
              by_cases hlm : m < nb
              · obtain ⟨b', off', rfl, hbB', hcell'⟩ := HBB.out m hlm
                have c0' := (HB3.out.cell (p := ⟨b', off' + m, none⟩) hbB').trans hcell'
                obtain ⟨d0, d1, d2, dl⟩ := HD3.out.cells
                rw [HV3.out] at d2
                have HS := hidden (rdz_drop (l := b2) (k := m) (by rw [← HNB.out]; exact hlm) 2)
                generalize b2.getD m 0 = x at *
                have HEN := hidden (show (D3 ++ [(2, x)]) ++ ((b2.drop (m + 1)).map fun y => (2, y)) = E from by have h := he3.out; rw [HS.out] at h; rw [← h, List.append_assoc]; rfl)
                have HDL := hidden (show D3.length < xs.length + ys.length from by
                  have h1 := congrArg List.length HEN.out
                  have h2 := HLE.out
                  simp only [List.length_append, List.length_cons, List.length_nil] at h1
                  omega)
                have HLT := hidden hlm
                clear hcell' HS
                go_wp2_with fail
                refine (H3.out D3 _ x HJ3.out HDL.out).mono ?_
                rintro e w5 ⟨rfl, hj5, hk5⟩
                have HJ5 := hidden hj5
                have HD5 := hidden (HD3.out.kept hk5)
                clear hj5 hk5 d0 d1 d2 dl c0'
                go_wp2
                have hlt' := HLT.out
                go_roundw
                case rel => exact ⟨m + 1, _, by omega, by go_num, HJ5.out, HD5.out, HEN⟩
                case measure => simp [intOf]; omega
              · have HE4 := hidden (show D3 = E from by
                  have h := he3.out
                  rw [List.drop_eq_nil_of_le (by rw [← HNB.out]; omega)] at h
                  simpa using h)
                clear he3
                go_wp2
                refine bodyPost_end (results_none rfl _ _ _) rfl ?_
                exact ⟨rfl, by rw [← HE4.out]; exact HJ3.out⟩
    · obtain ⟨x, a3, rfl⟩ : ∃ x a3, a2 = x :: a3 := by
        cases a2 with
        | nil => exact absurd (.inl rfl) hem
        | cons x a3 => exact ⟨x, a3, rfl⟩
      obtain ⟨y, b3, rfl⟩ : ∃ x a3, b2 = x :: a3 := by
        cases b2 with
        | nil => exact absurd (.inr rfl) hem
        | cons x a3 => exact ⟨x, a3, rfl⟩
      obtain ⟨b, off, _, ea⟩ := HRA.out.head
      simp only [Value.slice.injEq] at ea
      obtain ⟨rfl, ean, rfl⟩ := ea
      clear ean
      obtain ⟨b', off', _, eb⟩ := HRB.out.head
      simp only [Value.slice.injEq] at eb
      obtain ⟨rfl, ebn, rfl⟩ := eb
      clear ebn
      obtain ⟨hn1, hbB, k0, kc, km, kt1, kt2⟩ := HRA.out.tail
      obtain ⟨hn2, hbB', k0', kc', km', kt1', kt2'⟩ := HRB.out.tail
      have KT1 := hidden kt1
      have KT2 := hidden kt2
      have KT1' := hidden kt1'
      have KT2' := hidden kt2'
      have j0 := (HBE.out.cell (p := ⟨b, off, none⟩) hbB).trans k0
      have j0' := (HBE.out.cell (p := ⟨b', off', none⟩) hbB').trans k0'
      have hbl := cell_lt j0
      have hbl' := cell_lt j0'
      have HDL := hidden (show D.length < xs.length + ys.length from by
        have h1 := congrArg List.length he.out
        have h2 := HLE.out
        have h3 : 0 < (evs (x :: a3) (y :: b3)).length := by
          rcases Int.lt_trichotomy x y with h | h | h
          · rw [evs_lt h]; simp
          · rw [h, evs_eq]; simp
          · rw [evs_gt h]; simp
        rw [List.length_append] at h1
        omega)
      obtain ⟨p, hp⟩ : ∃ p, p = a3.length := ⟨_, rfl⟩
      obtain ⟨p', hp'⟩ : ∃ p, p = b3.length := ⟨_, rfl⟩
      obtain rfl : na = p + 1 := by omega
      obtain rfl : nb = p' + 1 := by omega
      rw [← hp] at KT2
      rw [← hp'] at KT2'
      have HN1 := hidden hp
      have HN2 := hidden hp'
      have hp1 : decide ((0 : Int) < ((p + 1 : Nat) : Int)) = true := decide_eq_true (by omega)
      have hp2 : decide ((0 : Int) < ((p' + 1 : Nat) : Int)) = true := decide_eq_true (by omega)
      have hp1' : decide (0 < p + 1) = true := decide_eq_true (by omega)
      have hp2' : decide (0 < p' + 1) = true := decide_eq_true (by omega)
      unfold maxLen at km km'
      clear kt1 kt2 kt1' kt2' hem hn1 hn2 k0 k0' hp hp' hp1 hp2 hp1' hp2'
      have hz : ∀ p : Later wr, p.at'.cell? ⟨b, off, none⟩ = some (.int .i64 x) := fun p => Later.cell j0 hbl p
      have hz' : ∀ p : Later wr, p.at'.cell? ⟨b', off', none⟩ = some (.int .i64 y) := fun p => Later.cell j0' hbl' p
      go_wp2
      refine wp_region_later (by kernel_rfl) (by kernel_rfl) ?_
      repeat (go_big_quiet_step (exact Later.same2 (Go.Proofs.Tryd.cmp_Compare_int _ _ _)))
      refine wpQuiet_nil ?_
      rintro w20 ⟨⟨_, hb20⟩, rfl⟩
      clear hz hz' j0 j0' hbl hbl'
      have HJ20 := hidden (HJb.out _ _ _ HJ.out hb20)
      have HD20 := hidden (show DoAt w20 w.heap.size v1 v2 v3 from (hb20.block _ HD.out.cells.2.2.2).trans HD.out)
      have HB20 := hidden (HJB.out _ _ HJ20.out)
      clear hb20
      have j0 := (HB20.out.cell (p := ⟨b, off, none⟩) hbB).trans HRA.out.tail.2.2.1
      have j0' := (HB20.out.cell (p := ⟨b', off', none⟩) hbB').trans HRB.out.tail.2.2.1
      obtain ⟨d0, d1, d2, dl⟩ := HD20.out.cells
      rw [HV1.out] at d0
      rw [HV2.out] at d1
      rw [HV3.out] at d2
      rcases Int.lt_trichotomy x y with hxy | hxy | hxy
      · have hq := cmp_lt hxy
        have HEN := hidden (show (D ++ [(0, x)]) ++ evs a3 (y :: b3) = E from by rw [← he.out, evs_lt hxy, List.append_assoc]; rfl)
        rw [hq]
        clear hq hxy
        go_wp2
        go_still_tail 5, (by kernel_rfl)
        change wpList _ _ _ _ _ w20.drew
        have HJ21 := hidden (HJb.out _ _ _ HJ20.out (Below.refl _ _).drew)
        have HD21 := hidden (show DoAt w20.drew w.heap.size v1 v2 v3 from HD20.out)
        go_wp2_with fail
        refine (H1.out D _ x HJ21.out HDL.out).mono ?_
        rintro e w5 ⟨rfl, hj5, hk5⟩
        have HJ5 := hidden hj5
        have HD5 := hidden (HD21.out.kept hk5)
        clear hj5 hk5 d0 d1 d2 dl j0 j0'
        by_cases hca : ca = 1
        · subst hca
          obtain rfl : p = 0 := by omega
          go_wp2
          go_roundw
          case rel => exact ⟨a3, (y :: b3), D ++ [(0, x)], _, _, _, _, _, _, rfl, rfl, HN1, HNB, by omega, by omega, KT1.out (by trivial), HRB.out, HJ5.out, HD5.out, HEN⟩
          case measure => simp only [lenV]; omega
        · have hca2 : 1 < ca := by omega
          have hcia : ((ca : Int) - 1).toNat = ca - 1 := by omega
          go_wp2
          go_roundw
          case rel => exact ⟨a3, (y :: b3), D ++ [(0, x)], _, _, _, _, _, _, rfl, rfl, HN1, HNB, by omega, by omega, KT2.out (by omega), HRB.out, HJ5.out, HD5.out, HEN⟩
          case measure => simp only [lenV]; omega
      · subst hxy
        have hq := cmp_eq x
        have HEN := hidden (show (D ++ [(1, x)]) ++ evs a3 b3 = E from by rw [← he.out, evs_eq, List.append_assoc]; rfl)
        rw [hq]
        clear hq
        go_wp2
        go_still_tail 5, (by kernel_rfl)
        change wpList _ _ _ _ _ w20.drew
        have HJ21 := hidden (HJb.out _ _ _ HJ20.out (Below.refl _ _).drew)
        have HD21 := hidden (show DoAt w20.drew w.heap.size v1 v2 v3 from HD20.out)
        go_wp2_with fail
        refine (H2.out D _ x HJ21.out HDL.out).mono ?_
        rintro e w5 ⟨rfl, hj5, hk5⟩
        have HJ5 := hidden hj5
        have HD5 := hidden (HD21.out.kept hk5)
        clear hj5 hk5 d0 d1 d2 dl j0 j0'
        by_cases hca : ca = 1
        · subst hca
          obtain rfl : p = 0 := by omega
          by_cases hcb : cb = 1
          · subst hcb
            obtain rfl : p' = 0 := by omega
            go_wp2
            first | go_region | skip
            all_goals
              try go_wp2
              go_roundw
              case rel => exact ⟨a3, b3, D ++ [(1, x)], _, _, _, _, _, _, rfl, rfl, HN1, HN2, by omega, by omega, KT1.out (by trivial), KT1'.out (by trivial), (by first | exact HJ5.out | exact HJb.out _ _ _ HJ5.out (Below.refl _ _).drew), HD5.out, HEN⟩
              case measure => simp only [lenV]; omega
          · have hcb2 : 1 < cb := by omega
            have hcib : ((cb : Int) - 1).toNat = cb - 1 := by omega
            go_wp2
            first | go_region | skip
            all_goals
              try go_wp2
              go_roundw
              case rel => exact ⟨a3, b3, D ++ [(1, x)], _, _, _, _, _, _, rfl, rfl, HN1, HN2, by omega, by omega, KT1.out (by trivial), KT2'.out (by omega), (by first | exact HJ5.out | exact HJb.out _ _ _ HJ5.out (Below.refl _ _).drew), HD5.out, HEN⟩
              case measure => simp only [lenV]; omega
        · have hca2 : 1 < ca := by omega
          have hcia : ((ca : Int) - 1).toNat = ca - 1 := by omega
          by_cases hcb : cb = 1
          · subst hcb
            obtain rfl : p' = 0 := by omega
            go_wp2
            first | go_region | skip
            all_goals
              try go_wp2
              go_roundw
              case rel => exact ⟨a3, b3, D ++ [(1, x)], _, _, _, _, _, _, rfl, rfl, HN1, HN2, by omega, by omega, KT2.out (by omega), KT1'.out (by trivial), (by first | exact HJ5.out | exact HJb.out _ _ _ HJ5.out (Below.refl _ _).drew), HD5.out, HEN⟩
              case measure => simp only [lenV]; omega
          · have hcb2 : 1 < cb := by omega
            have hcib : ((cb : Int) - 1).toNat = cb - 1 := by omega
            go_wp2
            first | go_region | skip
            all_goals
              try go_wp2
              go_roundw
              case rel => exact ⟨a3, b3, D ++ [(1, x)], _, _, _, _, _, _, rfl, rfl, HN1, HN2, by omega, by omega, KT2.out (by omega), KT2'.out (by omega), (by first | exact HJ5.out | exact HJb.out _ _ _ HJ5.out (Below.refl _ _).drew), HD5.out, HEN⟩
              case measure => simp only [lenV]; omega
      · have hq := cmp_gt hxy
        have HEN := hidden (show (D ++ [(2, y)]) ++ evs (x :: a3) b3 = E from by rw [← he.out, evs_gt hxy, List.append_assoc]; rfl)
        rw [hq]
        clear hq hxy
        go_wp2
        go_still_tail 5, (by kernel_rfl)
        change wpList _ _ _ _ _ w20.drew
        have HJ21 := hidden (HJb.out _ _ _ HJ20.out (Below.refl _ _).drew)
        have HD21 := hidden (show DoAt w20.drew w.heap.size v1 v2 v3 from HD20.out)
        go_wp2_with fail
        refine (H3.out D _ y HJ21.out HDL.out).mono ?_
        rintro e w5 ⟨rfl, hj5, hk5⟩
        have HJ5 := hidden hj5
        have HD5 := hidden (HD21.out.kept hk5)
        clear hj5 hk5 d0 d1 d2 dl j0 j0'
        by_cases hcb : cb = 1
        · subst hcb
          obtain rfl : p' = 0 := by omega
          go_wp2
          go_roundw
          case rel => exact ⟨(x :: a3), b3, D ++ [(2, y)], _, _, _, _, _, _, rfl, rfl, HNA, HN2, by omega, by omega, HRA.out, KT1'.out (by trivial), HJ5.out, HD5.out, HEN⟩
          case measure => simp only [lenV]; omega
        · have hcb2 : 1 < cb := by omega
          have hcib : ((cb : Int) - 1).toNat = cb - 1 := by omega
          go_wp2
          go_roundw
          case rel => exact ⟨(x :: a3), b3, D ++ [(2, y)], _, _, _, _, _, _, rfl, rfl, HNA, HN2, by omega, by omega, HRA.out, KT2'.out (by omega), HJ5.out, HD5.out, HEN⟩
          case measure => simp only [lenV]; omega
end Go.Proofs.YtbnohmbdfcapkaaDoor
