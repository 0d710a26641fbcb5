/- DfGo, DfRun, DfMach, FuRight, put together. -/
import Derived.Test.YtmpjjnjggihojaaGreatDoorDf13
import Derived.Test.YtmpjjnjggihojaaGreatDoorDf12
import Derived.Test.YtmpjjnjggihojaaGreatDoorDf03
/- Contracts of the reference's Go and Label of a machine. -/
namespace Go.Proofs.YtmpjjnjggihojaaGreatDoor
open Go.RowKit

/-- the whole machine is loaded -/
theorem load_dfa {ops : Array Oper} {rest : List Oper} {o : Oper} {a : Act} {w : World} {Q : Exit → Act → World → Prop} (hgd : o.guard = none) {x : Operand} (ho : o.op = .load 32 x)
    {B : Nat} {g : Nat → Nat} {wd : Int} {vn vl : Value} (hx : a.eval x = .pointer (some ⟨B, 0, none⟩)) (hA : DfaAt w B g wd vn vl)
    (h : wpList Tryz.prog ops Q rest (a.put o.dst (dfaA g wd vn vl)) w) : wpList Tryz.prog ops Q (o :: rest) a w :=
  wpList_load_row hgd 32 x ho B hx 32 _ _ _ hA Tryz.underlying32 rfl (by rw [dfaC_size]; exact size_dfa) h
theorem rightD_spec {D : DfaM} (h : rightD D = true) : rightV D.cls = true ∧ D.width = wid D.cls 256 ∧ D.next.length ≠ 0 ∧ D.label.length = D.next.length ∧
    ∀ i, i < D.next.length → ((D.next.getD i []).length : Int) = D.width ∧ -1 ≤ D.label.getD i 0 ∧ ∀ x ∈ D.next.getD i [], -1 ≤ x ∧ x < D.next.length := by
  unfold rightD headOk at h
  simp only [Bool.and_eq_true, decide_eq_true_eq, List.all_eq_true, List.mem_range] at h
  obtain ⟨⟨h1, h2, h3, h4⟩, h5⟩ := h
  refine ⟨h1, h2, h3, h4, fun i hi => ?_⟩
  have := h5 i hi
  unfold rowOk entB at this
  simp only [Bool.and_eq_true, decide_eq_true_eq, List.all_eq_true] at this
  exact ⟨this.1, this.2.1, this.2.2⟩
theorem getD_mem {l : List Int} {k : Nat} (h : k < l.length) : l.getD k 0 ∈ l := by
  rw [List.getD_eq_getElem?_getD, List.getElem?_eq_getElem h]
  exact List.getElem_mem h
/-- the state behind state s by byte c -/
def nxtD (D : DfaM) (s : Int) (c : Nat) : Int := (D.next.getD s.toNat []).getD (D.cls c) 0
theorem nxtD_in {D : DfaM} (h : rightD D = true) {s : Int} (h0 : 0 ≤ s) (h1 : s < D.next.length) {c : Nat} (hc : c < 256) : D.cls c < (D.next.getD s.toNat []).length ∧ -1 ≤ nxtD D s c ∧ nxtD D s c < D.next.length := by
  obtain ⟨_, h2, _, _, h5⟩ := rightD_spec h
  obtain ⟨h6, _, h7⟩ := h5 s.toNat (by omega)
  have h8 := wid_ge D.cls hc
  have h9 : D.cls c < (D.next.getD s.toNat []).length := by omega
  refine ⟨h9, ?_⟩
  unfold nxtD
  exact h7 _ (getD_mem h9)
def goD (D : DfaM) (s : Int) (c : Nat) : Int := if rightD D = true ∧ 0 ≤ s ∧ s < D.next.length then nxtD D s c else -1
def labelD (D : DfaM) (s : Int) : Int := if rightD D = true ∧ 0 ≤ s ∧ s < D.label.length then D.label.getD s.toNat 0 else -1

set_option maxHeartbeats 2000000 in
set_option maxRecDepth 100000 in
theorem rgo_calls {w : World} {vn vl : Value} {D : DfaM} (s : Int) (c : Nat) (h : RdDfa w.heap.size w vn vl D) (hc : c < 256) :
    Calls Tryz.prog 16 #[dfaA D.cls D.width vn vl, .int .i64 s, .int .u8 c] w fun e w' => e = .returned (.int .i64 (goD D s c)) ∧ Below w.heap.size w w' := by
  obtain ⟨an, cn, rfl⟩ := h.next.form
  have hbn : D.next.length ≤ 9223372036854775807 := by
    obtain ⟨_, _, e, h1, h2, _⟩ := h.next
    unfold maxLen at h2
    omega
  have HR := hidden (fun w' (hb : Below w.heap.size w w') => rright14_calls (h.below hb hb.size))
  obtain ⟨n, hn⟩ : ∃ n, n = D.next.length := ⟨_, rfl⟩
  rw [← hn] at hbn h HR ⊢
  have HN := hidden hn
  have HD := hidden h
  have HX := hidden (DfaAt.new w D.cls D.width (.slice an n cn) vl)
  have HB0 := hidden ((Below.refl w.heap.size w).alloc (Nat.le_refl _) (.cells (dfaC D.cls D.width (.slice an n cn) vl) 32))
  have hbx := run_box_dfa D.cls D.width (.slice an n cn) vl
  have HC := hidden hc
  clear h hn hc
  go_enter Tryz.func16, Tryz.ntmps16
  go_wp2_with (refine load_dfa rfl (x := .tmp 3) rfl rfl HX.out ?_)
  refine (HR.out _ HB0.out).mono ?_
  rintro e w1 ⟨rfl, hb1⟩
  have HX1 := hidden (HX.out.below hb1)
  have HB1 := hidden (below_then HB0.out HB0.out.size hb1)
  have e2 := (HX.out.below hb1).next
  clear hb1
  cases hr : rightD D with
  | false =>
    have HF := hidden (show goD D s c = -1 by unfold goD; rw [if_neg (by simp [hr])])
    clear hr
    go_wp2
    go_ret
    exact ⟨ret_i HF.out.symm, HB1.out⟩
  | true =>
    have HRT := hidden hr
    by_cases h0 : s < 0
    · have HF := hidden (show goD D s c = -1 by unfold goD; rw [if_neg (by omega)])
      clear hr
      go_wp2
      go_ret
      exact ⟨ret_i HF.out.symm, HB1.out⟩
    · by_cases h1 : s < n
      · obtain ⟨j, rfl⟩ : ∃ j : Nat, s = j := ⟨s.toNat, by omega⟩
        have hj : j < n := by omega
        obtain ⟨b, off, a', c', rfl, hbb, hcl, hrr⟩ := (HN.out ▸ HD.out.next).at HB1.out j (by rw [← HN.out]; exact hj)
        have hin := nxtD_in HRT.out (s := (j : Int)) (by omega) (by rw [← HN.out]; omega) HC.out
        have HF := hidden (show goD D (j : Int) c = (D.next.getD j []).getD (D.cls c) 0 by unfold goD nxtD; rw [if_pos ⟨HRT.out, by omega, by rw [← HN.out]; omega⟩]; rfl)
        have hin1 : D.cls c < (D.next.getD j []).length := hin.1
        obtain ⟨b3, off3, rfl, hb3, hc3⟩ := hrr.atZ (Below.refl _ _) (D.cls c) hin1
        have hcls := HX1.out.cls HC.out
        have c2 := fun (p : Later w1) => Later.cell e2 HX1.out.lt p
        have c4 := fun (p : Later w1) => Later.cell hcls HX1.out.lt p
        have d0 := fun (p : Later w1) => Later.cell hcl (cell_lt hcl) p
        have d1 := fun (p : Later w1) => Later.cell hc3 (cell_lt hc3) p
        have hc256 : (c : Int) < 256 := by have := HC.out; omega
        have hcl2 : D.cls c < 256 := HD.out.small c HC.out
        have hin2 : (D.cls c : Int) < ((D.next.getD j []).length : Int) := by omega
        generalize (D.next.getD j []).length = rl at *
        generalize (D.next.getD j []).getD (D.cls c) 0 = x at *
        generalize D.cls c = g at *
        clear hr hin hcls hcl hc3 hrr
        go_wp2
        refine wp_region_later (by kernel_rfl) (by kernel_rfl) ?_
        repeat (go_big_quiet_step (fail))
        refine wpQuiet_nil ?_
        rintro _ ⟨⟨_, hb5⟩, rfl⟩
        rename_i w5
        go_wp2
        go_ret
        exact ⟨ret_i HF.out.symm, below_then HB1.out HB1.out.size hb5⟩
      · have HF := hidden (show goD D s c = -1 by unfold goD; rw [if_neg (by rw [← HN.out]; omega)])
        clear hr
        go_wp2
        go_ret
        exact ⟨ret_i HF.out.symm, HB1.out⟩
end Go.Proofs.YtmpjjnjggihojaaGreatDoor

/- Contracts of the reference's Run and Label of a machine. -/
namespace Go.Proofs.YtmpjjnjggihojaaGreatDoor
open Go.RowKit

/-- from state s on, behind the rest of a word -/
def runS (D : DfaM) : Int → List Nat → Int
  | s, [] => s
  | s, c :: r => if s < 0 then s else runS D (nxtD D s c) r
def runD (D : DfaM) (W : List Nat) : Int := if rightD D = true then runS D 0 W else -1
theorem runS_stop (D : DfaM) {s : Int} (h : s < 0) : ∀ W, runS D s W = s
  | [] => rfl
  | c :: r => by unfold runS; rw [if_pos h]
theorem bytes_drop (s : ByteArray) {k : Nat} (h : k < s.size) : ((s.data.toList.drop k).map (·.toNat)) = s[k].toNat :: (s.data.toList.drop (k + 1)).map (·.toNat) := by
  have hl : k < s.data.toList.length := by simpa using h
  rw [List.drop_eq_getElem_cons hl, List.map_cons]
  rfl

set_option maxHeartbeats 2000000 in
set_option maxRecDepth 100000 in
theorem rrun14_calls {w : World} {vn vl : Value} {D : DfaM} (s : ByteArray) (h : RdDfa w.heap.size w vn vl D) (hs : s.size ≤ maxLen) :
    Calls Tryz.prog 18 #[dfaA D.cls D.width vn vl, .string s] w fun e w' => e = .returned (.int .i64 (runD D (s.data.toList.map (·.toNat)))) ∧ Below w.heap.size w w' := by
  obtain ⟨an, cn, rfl⟩ := h.next.form
  have hbn : D.next.length ≤ 9223372036854775807 := by
    obtain ⟨_, _, e, h1, h2, _⟩ := h.next
    unfold maxLen at h2
    omega
  unfold maxLen at hs
  have HR := hidden (fun w' (hb : Below w.heap.size w w') => rright14_calls (h.below hb hb.size))
  obtain ⟨n, hn⟩ : ∃ n, n = D.next.length := ⟨_, rfl⟩
  rw [← hn] at hbn h HR ⊢
  have HN := hidden hn
  have HD := hidden h
  have HX := hidden (DfaAt.new w D.cls D.width (.slice an n cn) vl)
  have HB0 := hidden ((Below.refl w.heap.size w).alloc (Nat.le_refl _) (.cells (dfaC D.cls D.width (.slice an n cn) vl) 32))
  have hbx := run_box_dfa D.cls D.width (.slice an n cn) vl
  clear h hn
  go_enter Tryz.func18, Tryz.ntmps18
  go_wp2_with (refine load_dfa rfl (x := .tmp 2) rfl rfl HX.out ?_)
  refine (HR.out _ HB0.out).mono ?_
  rintro e w1 ⟨rfl, hb1⟩
  have HX1 := hidden (HX.out.below hb1)
  have HB1 := hidden (below_then HB0.out HB0.out.size hb1)
  clear hb1
  cases hr : rightD D with
  | false =>
    have HF := hidden (show runD D (s.data.toList.map (·.toNat)) = -1 by unfold runD; rw [if_neg (by simp [hr])])
    clear hr
    go_wp2
    go_ret
    exact ⟨ret_i HF.out.symm, HB1.out⟩
  | true =>
    have HRT := hidden hr
    have HF := hidden (show runD D (s.data.toList.map (·.toNat)) = runS D 0 ((s.data.toList.drop 0).map (·.toNat)) by unfold runD; rw [if_pos hr]; rfl)
    have hn0 : 0 < n := by have := (rightD_spec hr).2.2.1; rw [HN.out]; omega
    clear hr
    go_wp2
    go_loopw [5, 6] (fun x i wr => ∃ (k : Nat) (t : Int), k ≤ s.size ∧ x = .int .i64 t ∧ i = .int .i64 k ∧ -1 ≤ t ∧ t < n ∧ runD D (s.data.toList.map (·.toNat)) = runS D t ((s.data.toList.drop k).map (·.toNat)) ∧ Below w1.heap.size w1 wr) (fun _ i _ => s.size - (intOf i).toNat)
    case atStart => exact ⟨0, 0, by omega, rfl, rfl, by omega, by omega, HF.out, Below.refl _ _⟩
    case round =>
      obtain ⟨k, t, hk, rfl, rfl, ht0, ht1, hf, hb⟩ := hrel
      have HFF := hidden hf
      have HB := hidden hb
      clear hf hb HF
      by_cases hlt : k < s.size
      · by_cases h0 : t < 0
        · have HE := hidden (HFF.out.trans (runS_stop D h0 _))
          have hq : decide ((0 : Int) ≤ t) = false := decide_eq_false (by omega)
          clear HFF
          go_wp2
          go_ret
          exact ⟨ret_i HE.out.symm, below_then HB1.out HB1.out.size HB.out⟩
        · obtain ⟨j, rfl⟩ : ∃ j : Nat, t = j := ⟨t.toNat, by omega⟩
          have hj : j < n := by omega
          have hq : decide ((0 : Int) ≤ j) = true := decide_eq_true (by omega)
          obtain ⟨c, hc⟩ : ∃ c, c = s[k].toNat := ⟨_, rfl⟩
          have hc256 : c < 256 := by rw [hc]; exact UInt8.toNat_lt _
          have hcx : ((s[k]'hlt).toNat : Int) = (c : Int) := by rw [hc]
          have hin := nxtD_in HRT.out (s := (j : Int)) (by omega) (by rw [← HN.out]; omega) hc256
          have hff := HFF.out
          rw [bytes_drop s hlt, runS, if_neg (by omega), ← hc] at hff
          obtain ⟨b, off, a', c', rfl, hbb, hcl, hrr⟩ := (HN.out ▸ HD.out.next).at (below_then HB1.out HB1.out.size HB.out) j (by rw [← HN.out]; exact hj)
          have hin1 : D.cls c < (D.next.getD j []).length := hin.1
          obtain ⟨b3, off3, rfl, hb3, hc3⟩ := hrr.atZ (Below.refl _ _) (D.cls c) hin1
          have hX := HX1.out.below HB.out
          have hcls := hX.cls hc256
          have c2 := fun (p : Later wr) => Later.cell hX.next hX.lt p
          have c4 := fun (p : Later wr) => Later.cell hcls hX.lt p
          have d0 := fun (p : Later wr) => Later.cell hcl (cell_lt hcl) p
          have d1 := fun (p : Later wr) => Later.cell hc3 (cell_lt hc3) p
          have hci : (c : Int) < 256 := by omega
          have hcl2 : D.cls c < 256 := HD.out.small c hc256
          have hin2 : (D.cls c : Int) < ((D.next.getD j []).length : Int) := by omega
          have hx : (D.next.getD j []).getD (D.cls c) 0 = nxtD D (j : Int) c := rfl
          rw [hx] at d1
          have hx0 := hin.2.1
          have hx1 := hin.2.2
          rw [← HN.out] at hx1
          generalize nxtD D (j : Int) c = x at *
          generalize (D.next.getD j []).length = rl at *
          generalize D.cls c = g at *
          have HG := hidden hff
          clear hff hin hcls hcl hc3 hrr hX hx hc HFF hin1
          go_wp2
          refine wp_region_later (by kernel_rfl) (by kernel_rfl) ?_
          repeat (go_big_quiet_step (fail))
          refine wpQuiet_nil ?_
          rintro _ ⟨⟨_, hb5⟩, rfl⟩
          rename_i w5
          have HB5 := hidden (below_then HB.out HB.out.size hb5)
          clear hb5
          go_wp2
          go_roundw
          case rel => exact ⟨k + 1, x, by omega, by go_num, by go_num, hx0, hx1, HG.out, HB5.out⟩
          case measure => simp [intOf]; omega
      · obtain rfl : k = s.size := by omega
        have HE := hidden (show runD D (s.data.toList.map (·.toNat)) = t from by rw [HFF.out, List.drop_eq_nil_of_le (by simp)]; rfl)
        clear HFF
        go_wp2
        go_ret
        exact ⟨ret_i HE.out.symm, below_then HB1.out HB1.out.size HB.out⟩
end Go.Proofs.YtmpjjnjggihojaaGreatDoor

/- What a machine of lists says: each number of a row stands for the list that it leads to; lists once each; a word's state stands for the word's list. -/
namespace Go.Proofs.YtmpjjnjggihojaaGreatDoor
open Go.RowKit

/-- number x stands for list t -/
def stdF (F : List (List Int)) (x : Int) (t : List Int) : Prop := (t = [] ∧ x = -1) ∨ (t ≠ [] ∧ ∃ k : Nat, x = k ∧ F[k]? = some t)
/-- what is found: the empty list first, each list once -/
def FndOk (F : List (List Int)) : Prop := (∃ r, F = [] :: r) ∧ F.Nodup
theorem pre_get {α : Type} {F G : List α} (h : F <+: G) {k : Nat} {t : α} (hk : F[k]? = some t) : G[k]? = some t := by
  obtain ⟨r, rfl⟩ := h
  have hl := (List.getElem?_eq_some_iff.1 hk).1
  rw [List.getElem?_append_left hl]
  exact hk
theorem pre_getD {α : Type} {F G : List α} (h : F <+: G) {k : Nat} (hk : k < F.length) (d : α) : G.getD k d = F.getD k d := by
  obtain ⟨r, rfl⟩ := h
  simp [List.getD_eq_getElem?_getD, List.getElem?_append_left hk]
theorem stdF.pre {F G : List (List Int)} {x : Int} {t : List Int} (h : stdF F x t) (hp : F <+: G) : stdF G x t := by
  rcases h with h | ⟨h, k, e, hk⟩
  · exact .inl h
  · exact .inr ⟨h, k, e, pre_get hp hk⟩
theorem stdF.bound {F : List (List Int)} {x : Int} {t : List Int} (h : stdF F x t) : -1 ≤ x ∧ x < F.length := by
  rcases h with ⟨_, rfl⟩ | ⟨_, k, rfl, hk⟩
  · constructor <;> omega
  · have := (List.getElem?_eq_some_iff.1 hk).1
    constructor <;> omega
theorem findI_get {F : List (List Int)} {t : List Int} (h : ¬ findI t F 0 < 0) : F[(findI t F 0).toNat]? = some t := by
  have h0 : 0 ≤ findI t F 0 := by omega
  have h1 := findI_yes t F 0 h0
  have h2 : (findI t F 0).toNat < F.length := by
    rcases findI_ge t F 0 with e | e
    · omega
    · omega
  rw [show findI t F 0 - ((0 : Nat) : Int) = findI t F 0 by simp, List.getD_eq_getElem?_getD, List.getElem?_eq_getElem h2] at h1
  rw [List.getElem?_eq_getElem h2]
  simpa using h1
theorem FndOk.zero {F : List (List Int)} (h : FndOk F) : F.getD 0 [] = [] := by
  obtain ⟨⟨r, rfl⟩, _⟩ := h
  rfl
theorem FndOk.pos {F : List (List Int)} (h : FndOk F) : 0 < F.length := by
  obtain ⟨⟨r, rfl⟩, _⟩ := h
  simp
theorem FndOk.full {F : List (List Int)} (h : FndOk F) {k : Nat} (h0 : 0 < k) {t : List Int} (hk : F[k]? = some t) : t ≠ [] := by
  obtain ⟨⟨r, rfl⟩, hn⟩ := h
  rintro rfl
  obtain ⟨j, rfl⟩ : ∃ j, k = j + 1 := ⟨k - 1, by omega⟩
  rw [List.getElem?_cons_succ] at hk
  exact (List.nodup_cons.1 hn).1 (List.mem_of_getElem? hk)

section
variable (go : Nat → List Int → Nat → List Int) (tok : List Int → Int) (W : Nat)
theorem clsS_ok {i : Nat} {s : List (List Int) × List Int} (c : Nat) (hF : FndOk s.1) :
    FndOk (clsS go i s c).1 ∧ ∃ x, (clsS go i s c).2 = s.2 ++ [x] ∧ stdF (clsS go i s c).1 x (go i (s.1.getD i []) c) := by
  unfold clsS
  generalize go i (s.1.getD i []) c = t
  split
  · rename_i h
    exact ⟨hF, -1, rfl, .inl ⟨h, rfl⟩⟩
  · rename_i h
    split
    · rename_i h2
      have hm : t ∉ s.1 := (findI_no t s.1 0).1 (by
        rcases findI_ge t s.1 0 with e | e
        · exact e
        · omega)
      refine ⟨⟨?_, ?_⟩, _, rfl, .inr ⟨h, s.1.length, rfl, by simp⟩⟩
      · obtain ⟨r, e⟩ := hF.1
        exact ⟨r ++ [t], by simp [e]⟩
      · rw [List.nodup_append]
        exact ⟨hF.2, by simp, fun a ha b hb => by
          simp only [List.mem_singleton] at hb
          subst hb
          exact fun e => hm (e ▸ ha)⟩
    · rename_i h2
      exact ⟨hF, _, rfl, .inr ⟨h, (findI t s.1 0).toNat, by omega, findI_get h2⟩⟩
theorem rowS_ok {i : Nat} {F : List (List Int)} (hF : FndOk F) (hi : i < F.length) : ∀ c, FndOk (rowS go i F c).1 ∧ (rowS go i F c).2.length = c ∧
    ∀ d, d < c → stdF (rowS go i F c).1 ((rowS go i F c).2.getD d 0) (go i (F.getD i []) d)
  | 0 => ⟨hF, rfl, fun _ h => absurd h (Nat.not_lt_zero _)⟩
  | c + 1 => by
    obtain ⟨h1, h2, h3⟩ := rowS_ok hF hi c
    have hp := rowS_pre go i F (Nat.zero_le c)
    have hg : (rowS go i F c).1.getD i [] = F.getD i [] := pre_getD hp hi []
    obtain ⟨k1, x, k2, k3⟩ := clsS_ok go (i := i) (s := rowS go i F c) c h1
    rw [hg] at k3
    refine ⟨k1, ?_, fun d hd => ?_⟩
    · show (clsS go i (rowS go i F c) c).2.length = _
      rw [k2]; simp [h2]
    · show stdF (clsS go i (rowS go i F c) c).1 ((clsS go i (rowS go i F c) c).2.getD d 0) _
      rw [k2]
      by_cases e : d = c
      · subst e
        have : ((rowS go i F d).2 ++ [x]).getD d 0 = x := by
          rw [List.getD_eq_getElem?_getD, List.getElem?_append_right (by omega), h2]
          simp
        rw [this]; exact k3
      · have : ((rowS go i F c).2 ++ [x]).getD d 0 = (rowS go i F c).2.getD d 0 := by
          rw [List.getD_eq_getElem?_getD, List.getElem?_append_left (by omega), ← List.getD_eq_getElem?_getD]
        rw [this]
        exact (h3 d (by omega)).pre (clsS_pre go i _ c)
/-- behind n rows -/
theorem outS_ok : ∀ n, n ≤ (outS go tok W n).1.length → FndOk (outS go tok W n).1 ∧ ∀ i, i < n → ((outS go tok W n).2.1.getD i []).length = W ∧
    (∀ c, c < W → stdF (outS go tok W n).1 (((outS go tok W n).2.1.getD i []).getD c 0) (go i ((outS go tok W n).1.getD i []) c)) ∧ (outS go tok W n).2.2.getD i 0 = tok ((outS go tok W n).1.getD i [])
  | 0, _ => ⟨⟨⟨[], rfl⟩, by simp [outS]⟩, fun _ h => absurd h (Nat.not_lt_zero _)⟩
  | n + 1, h => by
    by_cases hn : n < (outS go tok W n).1.length
    · obtain ⟨h1, h2⟩ := outS_ok n (by omega)
      obtain ⟨l1, l2⟩ := outS_lens go tok W n (by omega)
      rw [outS_more go tok W hn]
      generalize outS go tok W n = s at *
      obtain ⟨F, N, L⟩ := s
      simp only at *
      obtain ⟨r1, r2, r3⟩ := rowS_ok go h1 hn W
      have hp := rowS_pre go n F (Nat.zero_le W)
      refine ⟨r1, fun i hi => ?_⟩
      by_cases e : i = n
      · subst e
        have e1 : (N ++ [(rowS go i F W).2]).getD i [] = (rowS go i F W).2 := by
          rw [List.getD_eq_getElem?_getD, List.getElem?_append_right (by omega), l1]; simp
        have e2 : (L ++ [tok ((rowS go i F W).1.getD i [])]).getD i 0 = tok ((rowS go i F W).1.getD i []) := by
          rw [List.getD_eq_getElem?_getD, List.getElem?_append_right (by omega), l2]; simp
        rw [e1, e2, pre_getD hp hn []]
        exact ⟨r2, r3, rfl⟩
      · have e1 : (N ++ [(rowS go n F W).2]).getD i [] = N.getD i [] := by
          rw [List.getD_eq_getElem?_getD, List.getElem?_append_left (by omega), ← List.getD_eq_getElem?_getD]
        have e2 : (L ++ [tok ((rowS go n F W).1.getD n [])]).getD i 0 = L.getD i 0 := by
          rw [List.getD_eq_getElem?_getD, List.getElem?_append_left (by omega), ← List.getD_eq_getElem?_getD]
        rw [e1, e2, pre_getD hp (show i < F.length by omega) []]
        obtain ⟨k1, k2, k3⟩ := h2 i (by omega)
        exact ⟨k1, fun c hc => (k2 c hc).pre hp, k3⟩
    · have e := outS_stop go tok W (i := n) (by omega) 1
      rw [e] at h
      omega
/-- each list that is found is the empty one, or what a step leads to -/
theorem outS_all {P : List Int → Prop} (h0 : P []) (hg : ∀ i l c, P (go i l c)) : ∀ n, ∀ t ∈ (outS go tok W n).1, P t
  | 0, t, h => by
    simp only [outS, List.mem_singleton] at h
    subst h; exact h0
  | n + 1, t, h => by
    have ih := outS_all h0 hg n
    by_cases hn : n < (outS go tok W n).1.length
    · rw [outS_more go tok W hn] at h
      exact rowS_all h0 hg n _ ih W t h
    · have e := outS_stop go tok W (i := n) (by omega) 1
      rw [e] at h
      exact ih t h
where rowS_all {P : List Int → Prop} (h0 : P []) (hg : ∀ i l c, P (go i l c)) (i : Nat) (F : List (List Int)) (hF : ∀ t ∈ F, P t) : ∀ c, ∀ t ∈ (rowS go i F c).1, P t
  | 0, t, h => hF t h
  | c + 1, t, h => by
    have ih := rowS_all h0 hg i F hF c
    have h' : t ∈ (clsS go i (rowS go i F c) c).1 := h
    unfold clsS at h'
    split at h'
    · exact ih t h'
    · split at h'
      · rcases List.mem_append.1 h' with h' | h'
        · exact ih t h'
        · simp only [List.mem_singleton] at h'
          subst h'
          exact hg _ _ _
      · exact ih t h'
end
end Go.Proofs.YtmpjjnjggihojaaGreatDoor

/- Contracts of areSpots and Right, and of the reference's spots and Right. -/
namespace Go.Proofs.YtmpjjnjggihojaaGreatDoor
open Go.RowKit Go.Lib Go.Joins
theorem RdZ.bound {B : Nat} {w : World} {a : Option Addr} {n c : Nat} {l : List Int} (h : RdZ B w (.slice a n c) l) : n = l.length ∧ l.length ≤ 9223372036854775807 := by
  obtain ⟨a', cap, e, h1, h2, _, _⟩ := h
  simp only [Value.slice.injEq] at e
  unfold maxLen at h2
  omega
set_option maxHeartbeats 4000000 in
set_option maxRecDepth 100000 in
theorem areSpots_calls {w : World} {v : Value} {l : List Int} {n : Nat} (h : RdZ w.heap.size w v l) : Calls Tryz.prog 50 #[v, .int .i64 n] w fun e w' => e = .returned (.bool (spotsB l n)) ∧ Below w.heap.size w w' := by
  rw [spotsB_ends]
  have HU := hidden (right_calls w v l h)
  obtain ⟨a, c, rfl⟩ := h.form
  have hb := h.bound.2
  have HA := hidden (fun W (hb : Below w.heap.size w W) i (hi : i < l.length) => h.atZ hb i hi)
  obtain ⟨m, hm⟩ : ∃ m, m = l.length := ⟨_, rfl⟩
  rw [← hm] at HU HA hb ⊢
  clear h hm
  generalize upB l = u at *
  cases u
  case false =>
    rw [Bool.false_and]
    go_enter Tryz.func50, Tryz.ntmps50
    go_wp2_with fail
    refine HU.out.mono ?_
    rintro e w1 ⟨rfl, hb1⟩
    go_wp2
    go_ret
    exact ⟨rfl, hb1⟩
  case true =>
    rw [Bool.true_and]
    by_cases h0 : m = 0
    · subst h0
      clear HA
      go_enter Tryz.func50, Tryz.ntmps50
      go_wp2_with fail
      refine HU.out.mono ?_
      rintro e w1 ⟨rfl, hb1⟩
      go_wp2
      go_ret
      exact ⟨rfl, hb1⟩
    · have hq : ((m : Int) == 0) = false := by rw [beq_eq_false_iff_ne]; omega
      have hd : decide (m = 0) = false := decide_eq_false h0
      have hs : IntKind.i64.wrap ((m : Int) - 1) = ((m - 1 : Nat) : Int) := by rw [IntKind.wrap_i64]; omega
      have hi1 : ((m - 1 : Nat) : Int) < (m : Int) := by omega
      have hi2 : m - 1 < m := by omega
      have hi3 : (0 : Int) < (m : Int) := by omega
      have hi4 : 0 < m := by omega
      obtain ⟨j, hj⟩ : ∃ j, j = m - 1 := ⟨_, rfl⟩
      rw [← hj] at hs hi1 hi2 ⊢
      rw [hd, Bool.false_or]
      have HC := hidden (fun W (hb : Below w.heap.size w W) => (show ∃ b off, a = some ⟨b, off, none⟩ ∧ W.cell? ⟨b, off, none⟩ = some (.int .i64 (l.getD 0 0)) ∧ W.cell? ⟨b, off + j, none⟩ = some (.int .i64 (l.getD j 0)) from by
        obtain ⟨b, off, rfl, _, c0⟩ := HA.out W hb 0 hi4
        obtain ⟨b', off', e, _, c1⟩ := HA.out W hb j hi2
        simp only [Option.some.injEq, Addr.mk.injEq, and_true] at e
        obtain ⟨rfl, rfl⟩ := e
        exact ⟨b, off, rfl, c0, c1⟩))
      generalize l.getD 0 0 = x0 at *
      generalize l.getD j 0 = x1 at *
      clear h0 hj hd
      by_cases hx : 0 ≤ x0
      case' pos =>
        have hd0 : decide (0 ≤ x0) = true := decide_eq_true hx
        rw [hd0, Bool.true_and]
      case' neg =>
        have hd0 : decide (0 ≤ x0) = false := decide_eq_false hx
        rw [hd0, Bool.false_and]
      all_goals
        clear hx
        go_enter Tryz.func50, Tryz.ntmps50
        go_wp2_with fail
        refine HU.out.mono ?_
        rintro e w1 ⟨rfl, hb1⟩
        obtain ⟨b, off, rfl, c0, c1⟩ := HC.out w1 hb1
        go_wp2
        go_ret
        exact ⟨rfl, hb1⟩
theorem all_drop (p : Int → Bool) (l : List Int) (k : Nat) (hk : k < l.length) : (l.drop k).all p = (p (l.getD k 0) && (l.drop (k + 1)).all p) := by
  rw [List.drop_eq_getElem_cons hk, List.all_cons, List.getD_eq_getElem?_getD, List.getElem?_eq_getElem hk]
  rfl
set_option maxHeartbeats 4000000 in
set_option maxRecDepth 100000 in
theorem rspots_calls {w : World} {v vo vl vf v1 : Value} {sa : Option Addr} {n cs : Nat} {l : List Int} (h : RdZ w.heap.size w v l) : Calls Tryz.prog 57 #[.agg #[.slice sa n cs, vo, vl, vf, v1], v] w fun e w' => e = .returned (.bool (spotsB l n)) ∧ Below w.heap.size w w' := by
  have HS := hidden (show spotsB l n = ((l.drop 0).all (fun x => decide (0 ≤ x) && decide (x < n)) && upB l) by unfold spotsB; rw [List.drop_zero, Bool.and_comm])
  have hba := (Below.refl w.heap.size w).alloc (Nat.le_refl _) (.cells #[.slice sa n cs, vo, vl, vf, v1] 27)
  have HBA := hidden hba
  have HBX := hidden (net_box w (.slice sa n cs) vo vl vf v1 27)
  have HU := hidden (fun W (hb : Below w.heap.size w W) => rright_calls W v l (h.later hb))
  obtain ⟨a, c, rfl⟩ := h.form
  have hb := h.bound.2
  have HA := hidden (fun W (hb : Below w.heap.size w W) i (hi : i < l.length) => h.atZ hb i hi)
  have HD := hidden (fun k (hk : k < l.length) => all_drop (fun x => decide (0 ≤ x) && decide (x < n)) l k hk)
  have HN := hidden (fun k (hk : l.length ≤ k) => (show (l.drop k).all (fun x => decide (0 ≤ x) && decide (x < (n : Int))) = true by rw [List.drop_eq_nil_of_le hk]; rfl))
  obtain ⟨m, hm⟩ : ∃ m, m = l.length := ⟨_, rfl⟩
  rw [← hm] at HU HA HD HN hb ⊢
  clear h hm hba
  generalize spotsB l n = R at *
  go_enter Tryz.func57, Tryz.ntmps57
  go_wp2
  go_loopw [5] (fun i wr => ∃ k : Nat, k ≤ m ∧ i = .int .i64 k ∧ Hid (R = ((l.drop k).all (fun x => decide (0 ≤ x) && decide (x < (n : Int))) && upB l)) ∧ Below (w.heap.size + 1) (w.alloc (.cells #[.slice sa n cs, vo, vl, vf, v1] 27)) wr) (fun i _ => m - (intOf i).toNat)
  case atStart => exact ⟨0, by omega, rfl, HS, Below.refl _ _⟩
  case round =>
    obtain ⟨k, hk, rfl, hd, hb2⟩ := hrel
    have HB := hidden hb2
    obtain ⟨b0, b1, b2, b3, b4⟩ := HBX.out wr HB.out
    have HBW := hidden (show Below w.heap.size w wr from HBA.out.trans (hb2.mono (by omega)))
    clear hb2
    by_cases hlt : k < m
    · obtain ⟨b, off, rfl, _, c0⟩ := HA.out wr HBW.out k hlt
      have HK := hidden (HD.out k hlt)
      have hlt' := hlt
      have hkb : IntKind.i64.wrap ((k : Int) + 1) = (k : Int) + 1 := by rw [IntKind.wrap_i64]; omega
      generalize l.getD k 0 = x at *
      by_cases hx : 0 ≤ x
      · have hd0 : decide (x < 0) = false := decide_eq_false (by omega)
        have hd1 : decide (0 ≤ x) = true := decide_eq_true hx
        by_cases hx2 : x < (n : Int)
        · have hd2 : decide ((n : Int) ≤ x) = false := decide_eq_false (by omega)
          have HE := hidden (show R = ((l.drop (k + 1)).all (fun x => decide (0 ≤ x) && decide (x < (n : Int))) && upB l) from by rw [hd.out, HK.out, hd1, decide_eq_true hx2]; simp)
          clear hx hx2 hd HK hd1
          go_wp2
          go_region
          all_goals
            go_wp2
            go_roundw
            case rel => exact ⟨k + 1, by omega, by go_num, HE, below_drawn HB.out 1⟩
            case measure => simp [intOf]; omega
        · have hd2 : decide ((n : Int) ≤ x) = true := decide_eq_true (by omega)
          have HE := hidden (show R = false from by rw [hd.out, HK.out, decide_eq_false hx2]; simp)
          clear hx hx2 hd HK hd1
          go_wp2
          go_region
          all_goals
            go_wp2
            go_ret
            exact ⟨ret_b HE.out.symm, below_drawn HBW.out 1⟩
      · have hd0 : decide (x < 0) = true := decide_eq_true (by omega)
        have HE := hidden (show R = false from by rw [hd.out, HK.out, decide_eq_false hx]; simp)
        clear hx hd HK
        go_wp2
        go_region
        all_goals
          go_wp2
          go_ret
          exact ⟨ret_b HE.out.symm, below_drawn HBW.out 1⟩
    · obtain rfl : k = m := by omega
      have HE := hidden (show R = upB l from by rw [hd.out, HN.out _ (Nat.le_refl _), Bool.true_and])
      clear hd
      go_wp2_with fail
      refine (HU.out wr HBW.out).mono ?_
      rintro e w5 ⟨rfl, hb5⟩
      go_wp2
      go_ret
      exact ⟨ret_b HE.out.symm, below_after HBW.out hb5⟩
end Go.Proofs.YtmpjjnjggihojaaGreatDoor
