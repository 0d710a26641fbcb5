/- 'FuseParts' answers true for every list of tokens and every two words: two words, one behind the other, lead where the second one leads from where the first one does. Conditions: the listed table math/bits.deBruijn64tab holds what its initialiser lays (listed and tied). -/
import Derived.Test.YtbokhofdgdcpdaaDoorFu35
import Derived.Deep.RegionLaw
namespace Go.Proofs.YtbokhofdgdcpdaaDoor
open Go.RowKit Go.Lib Go.Joins
attribute [local go_sem] evalR_tmp evalR_const evalR_global evalR_func
structure KP (w0 : World) (n0 : Nat) (vs vo vl vf v1 : Value) (N : NetM) (v : Value) (T : List (List Stp)) (u : Value) (A : List Int) (w : World) : Prop where
  k : KV w0 n0 vs vo vl vf v1 N v T w
  z : RdZ w.heap.size w u A
theorem KP.more {w0 w w' : World} {n0 : Nat} {vs vo vl vf v1 v u : Value} {A : List Int} {N : NetM} {T : List (List Stp)} (h : KP w0 n0 vs vo vl vf v1 N v T u A w) (hb : Below w.heap.size w w') : KP w0 n0 vs vo vl vf v1 N v T u A w' :=
  ⟨h.k.more hb, h.z.later hb⟩
def LPa (a8 : Option Addr) (c8 c0 : Nat) (A D : List Int) (s1 s2 s3 : ByteArray) (vs vo vl vf v1 : Value) : List (Value → World → Prop) := [
  Is (.agg #[vs, vo, vl, vf, v1]), Is (.string s1), Is (.string s2), Is (.string (s1 ++ s2)), Rz A.length A, Is (.slice a8 A.length c8), isTrue, isTrue, Is (.agg #[vs, vo, vl, vf, v1]), Is (.string s1), Is (.int .u8 (c0 : Int)), Rz D.length D, Is (.agg #[vs, vo, vl, vf, v1]), Is (.string s1), Is (.string s3), Rz D.length D, isTrue, isTrue, isTrue, Is (.slice a8 A.length c8), isTrue, isTrue, isTrue, isTrue, isTrue, isTrue]
set_option maxHeartbeats 16000000 in
set_option maxRecDepth 100000 in
theorem walkFuParts (a0 : Option Addr) (len0 cap0 : Nat) (T : List (List Stp)) (s1 s2 : ByteArray) (w : World) (h : Toks (fun b => b < w.heap.size) w (.slice a0 len0 cap0) T ∧ ∀ i, ∀ s ∈ T.getD i [], s.fit) (_ : s1.size ≤ maxLen) (_ : s2.size ≤ maxLen) (ht : Tab w) :
    Calls Tryd.prog 9 #[.slice a0 len0 cap0, .string s1, .string s2] w fun e w' => e = .returned (.bool true) ∧ Below w.heap.size w w' := by
  obtain ⟨hT, hfit⟩ := h
  have hwd : ∀ i, ∀ s ∈ T.getD i [], s.wide := fun i s hs => fit_wide (hfit i s hs)
  have HT := hidden ht
  have HG := hidden (show 0 < w.heap.size from cell_lt (ht 0 (by decide)))
  have HV := hidden hT
  have HF := hidden (Few_calls hT)
  by_cases hfew : fewB T = true
  case neg =>
    have hfew' : fewB T = false := by simpa using hfew
    rw [hfew'] at HF
    clear hT hfit hwd ht hfew hfew'
    go_enter Tryd.func9, Tryd.ntmps9
    go_wp2_with fail
    refine HF.out.mono ?_
    rintro e w1 ⟨rfl, rfl⟩
    go_wp2_with fail
    refine (knows12_calls _ HT.out).mono ?_
    rintro e w4 ⟨rfl, hb4⟩
    go_wp2
    go_ret
    exact ⟨rfl, hb4⟩
  rw [hfew] at HF
  have HFT := hidden (few_yes hfew hwd)
  have HFS := hidden (few_sets hfew hwd)
  have HRT := hidden (fuseM_right HFT.out)
  have HWD := hidden (fuseM_wide hwd)
  clear hT hfit hwd ht hfew
  by_cases p1 : 30 < s1.size
  case pos =>
    have q2 : decide ((30 : Int) < (s1.size : Int)) = true := decide_eq_true (by omega)
    have q3 : decide (30 < s1.size) = true := decide_eq_true p1
    clear p1
    go_enter Tryd.func9, Tryd.ntmps9
    go_wp2_with fail
    refine HF.out.mono ?_
    rintro e w1 ⟨rfl, rfl⟩
    go_wp2_with fail
    refine (knows12_calls _ HT.out).mono ?_
    rintro e w4 ⟨rfl, hb4⟩
    go_wp2
    go_ret
    exact ⟨rfl, hb4⟩
  have q2 : decide ((30 : Int) < (s1.size : Int)) = false := decide_eq_false (by omega)
  have q3 : decide (30 < s1.size) = false := decide_eq_false p1
  by_cases p2 : 30 < s2.size
  case pos =>
    have q4 : decide ((30 : Int) < (s2.size : Int)) = true := decide_eq_true (by omega)
    have q5 : decide (30 < s2.size) = true := decide_eq_true p2
    clear p1 p2
    go_enter Tryd.func9, Tryd.ntmps9
    go_wp2_with fail
    refine HF.out.mono ?_
    rintro e w1 ⟨rfl, rfl⟩
    go_wp2_with fail
    refine (knows12_calls _ HT.out).mono ?_
    rintro e w4 ⟨rfl, hb4⟩
    go_wp2
    go_ret
    exact ⟨rfl, hb4⟩
  have q4 : decide ((30 : Int) < (s2.size : Int)) = false := decide_eq_false (by omega)
  have q5 : decide (30 < s2.size) = false := decide_eq_false p2
  by_cases p3 : s1.size = 0
  case pos =>
    obtain rfl : s1 = ⟨#[]⟩ := by
      have : s1.data.size = 0 := p3
      cases s1
      simp_all
    clear p1 p2 p3
    go_enter Tryd.func9, Tryd.ntmps9
    go_wp2_with fail
    refine HF.out.mono ?_
    rintro e w1 ⟨rfl, rfl⟩
    go_wp2_with fail
    refine (knows12_calls _ HT.out).mono ?_
    rintro e w4 ⟨rfl, hb4⟩
    go_wp2
    go_ret
    exact ⟨rfl, hb4⟩
  have hpos : 0 < s1.size := by omega
  have q7 : ¬ s1.toList = [] := by
    rw [ByteArray.toList_eq]
    intro e
    have h : s1.data.toList.length = 0 := by rw [e]; rfl
    exact absurd (show s1.size = 0 from (Array.length_toList (xs := s1.data)).symm.trans h) (by omega)
  have q6 : s1.toList.isEmpty = false := by simpa using q7
  obtain ⟨n, hn⟩ : ∃ n, n = s1.size := ⟨_, rfl⟩
  have HN := hidden hn
  have HXL := hidden (show (byN s1 ++ byN s2).length = n + s2.size by rw [List.length_append, byN_len, byN_len, hn])
  obtain ⟨N, hNN⟩ : ∃ N, N = fuseM T := ⟨_, rfl⟩
  have HNN := hidden hNN
  rw [← hNN] at HFS HRT HWD
  have HT1 := hidden (show (byN s1 ++ byN s2).take (n + 0) = byN s1 by rw [Nat.add_zero, List.take_left' (by rw [byN_len, hn])])
  have HTA := hidden (show (byN s1 ++ byN s2).take (n + s2.size) = byN s1 ++ byN s2 from List.take_of_length_le (by rw [HXL.out]; exact Nat.le_refl _))
  have HMO := hidden (fun j (hj : j < s2.size) => (show runM N ((byN s1 ++ byN s2).take (n + (j + 1))) = stepM N (spI (runM N ((byN s1 ++ byN s2).take (n + j)))) ((byN s2).getD j 0) from by
    have h1 := runM_more N (byN s1 ++ byN s2) (n + j) (by omega) (by rw [HXL.out]; omega)
    rw [← Nat.add_assoc, h1]
    congr 1
    rw [List.getD_eq_getElem?_getD, List.getElem?_append_right (by rw [byN_len]; omega), byN_len, show n + j - s1.size = j by omega, List.getD_eq_getElem?_getD]))
  have HBY := hidden (fun j (hj : j < s2.size) => (show ∃ c : Nat, (∃ hp : j < s2.size, ((s2[j]'hp).toNat : Int) = (c : Int)) ∧ c < 256 ∧ (byN s2).getD j 0 = c from ⟨(byN s2).getD j 0, ⟨by omega, by rw [byN_at s2 j (by omega)]⟩, by rw [byN_at s2 j (by omega)]; exact UInt8.toNat_lt _, rfl⟩))
  have HX0 := hidden (show ∃ hp : 0 < s1.size, ((s1[0]'hp).toNat : Int) = (((byN s1).getD 0 0 : Nat) : Int) from ⟨hpos, by rw [byN_at s1 0 hpos]⟩)
  have HC0 := hidden (show (byN s1).getD 0 0 < 256 by rw [byN_at s1 0 hpos]; exact UInt8.toNat_lt _)
  have HSZ := hidden (show ¬ 9223372036854775807 < s1.size + s2.size by omega)
  have HSL := hidden (show (1 : Int) ≤ (s1.size : Int) by omega)
  obtain ⟨s3, hs3⟩ : ∃ s3, s3 = s1.extract 0 1 := ⟨_, rfl⟩
  have HEX := hidden (show s1.extract 0 1 = s3 from hs3.symm)
  have HS3 := hidden (show byN s3 = [(byN s1).getD 0 0] by rw [hs3]; exact byN_one s1 hpos)
  obtain ⟨c0, hc0⟩ : ∃ c, c = (byN s1).getD 0 0 := ⟨_, rfl⟩
  rw [← hc0] at HX0 HC0 HS3
  have HZ3 := hidden (show s3.size ≤ 1 by have h1 := byN_len s3; rw [HS3.out] at h1; exact Nat.le_of_eq h1.symm)
  clear p1 p2 p3 hpos hn hNN hs3 hc0
  obtain ⟨A, hA⟩ : ∃ A, A = spI (runM N (byN s1 ++ byN s2)) := ⟨_, rfl⟩
  obtain ⟨D, hD⟩ : ∃ D, D = spI (startM N c0) := ⟨_, rfl⟩
  have HA := hidden hA
  have HRA := hidden (fun (W : World) {vs vo vl vf v1 : Value} (hr : RdNet W.heap.size W vs vo vl vf v1 N) => (show Calls Tryd.prog 41 #[.agg #[vs, vo, vl, vf, v1], .string (s1 ++ s2)] W (RetZ W A) from by
    have := Run_calls (s1 ++ s2) hr HWD.out (by have := HFS.out.1; omega) (by have := HFS.out.2; omega) (by rw [ByteArray.size_append]; have := of_decide_eq_false q3; have := of_decide_eq_false q5; omega)
    rw [byN_app, ← hA] at this
    exact this))
  have HST := hidden (fun (W : World) {vs vo vl vf v1 : Value} (hr : RdNet W.heap.size W vs vo vl vf v1 N) => (show Calls Tryd.prog 37 #[.agg #[vs, vo, vl, vf, v1], .int .u8 (c0 : Int)] W (RetZ W D) from by
    rw [hD]
    exact start_calls hr HWD.out (by have := HFS.out.2; omega) HC0.out))
  have HRO := hidden (fun (W : World) {vs vo vl vf v1 : Value} (hr : RdNet W.heap.size W vs vo vl vf v1 N) => (show Calls Tryd.prog 41 #[.agg #[vs, vo, vl, vf, v1], .string s3] W (RetZ W D) from by
    have := Run_calls s3 hr HWD.out (by have := HFS.out.1; omega) (by have := HFS.out.2; omega) (by have := HZ3.out; omega)
    rw [HS3.out, runM_one, ← hD] at this
    exact this))
  have HSA := hidden (fun (W : World) (B : Nat) (u1 u2 : Value) (h1 : RdZ B W u1 A) (h2 : RdZ B W u2 A) => (by have := rsame_calls h1 h2; rwa [decide_eq_true rfl] at this : Calls Tryd.prog 36 #[u1, u2] W fun e w' => e = .returned (.bool true) ∧ Below W.heap.size W w'))
  have HSD := hidden (fun (W : World) (B : Nat) (u1 u2 : Value) (h1 : RdZ B W u1 D) (h2 : RdZ B W u2 D) => (by have := rsame_calls h1 h2; rwa [decide_eq_true rfl] at this : Calls Tryd.prog 36 #[u1, u2] W fun e w' => e = .returned (.bool true) ∧ Below W.heap.size W w'))
  have HUPA := hidden (show upB A = true from by rw [hA]; exact decide_eq_true (spI_up (runM_up N _)))
  have HUP := hidden (fun (W : World) {u1 : Value} (h1 : RdZ W.heap.size W u1 A) => (by have := rright_calls W u1 A h1; rwa [HUPA.out] at this : Calls Tryd.prog 45 #[u1] W fun e w' => e = .returned (.bool true) ∧ Below W.heap.size W w'))
  have HR1 := hidden (fun (W : World) {vs vo vl vf v1 : Value} (hr : RdNet W.heap.size W vs vo vl vf v1 N) => (show Calls Tryd.prog 41 #[.agg #[vs, vo, vl, vf, v1], .string s1] W (RetZ W (spI (runM N ((byN s1 ++ byN s2).take (n + 0))))) from by
    rw [HT1.out]
    exact Run_calls s1 hr HWD.out (by have := HFS.out.1; omega) (by have := HFS.out.2; omega) (by have := of_decide_eq_false q3; omega)))
  have HAT := hidden (show spI (runM N ((byN s1 ++ byN s2).take (n + s2.size))) = A by rw [HTA.out, hA])
  clear hA hD
  obtain ⟨F, hFF⟩ : ∃ F : Nat → List Int, F = fun j => spI (runM N ((byN s1 ++ byN s2).take (n + j))) := ⟨_, rfl⟩
  have HR1 := hidden (fun (W : World) {vs vo vl vf v1 : Value} (hr : RdNet W.heap.size W vs vo vl vf v1 N) => (show Calls Tryd.prog 41 #[.agg #[vs, vo, vl, vf, v1], .string s1] W (RetZ W (F 0)) from by rw [hFF]; exact HR1.out W hr))
  have HFA := hidden (show F s2.size = A by rw [hFF]; exact HAT.out)
  have HFE := hidden (fun k => (show F k = spI (runM N ((byN s1 ++ byN s2).take (n + k))) by rw [hFF]))
  have HFM := hidden (fun j (hj : j < s2.size) (W : World) {vs vo vl vf v1 u : Value} (c : Nat) (hc : c < 256) (he : (byN s2).getD j 0 = c) (hr : RdNet W.heap.size W vs vo vl vf v1 N) (hz : RdZ W.heap.size W u (F j)) => (show Calls Tryd.prog 39 #[.agg #[vs, vo, vl, vf, v1], u, .int .u8 (c : Int)] W (RetZ W (F (j + 1))) from by
    rw [HFE.out] at hz
    have := Step_calls hr HWD.out (by have := HFS.out.1; omega) hz hc
    rw [HFE.out, HMO.out j hj, he]
    exact this))
  have hm30 : s2.size ≤ 30 := by have := of_decide_eq_false q5; omega
  have HFUSE := hidden (Fuse_calls HV.out (fun b hb => hb) HFT.out HT.out HG.out)
  rw [← HNN.out] at HFUSE
  clear hFF
  go_enter Tryd.func9, Tryd.ntmps9
  go_wp2_with fail
  refine HF.out.mono ?_
  rintro e w1 ⟨rfl, rfl⟩
  go_wp2_with fail
  refine HFUSE.out.mono ?_
  rintro e w2 ⟨vs, vo, vl, vf, v1, rfl, hr2, hb2⟩
  have HB2 := hidden hb2
  have HR2 := hidden hr2
  clear hr2 hb2
  unfold netV
  have HO := hidden (heap_alloc_new w2 (.cells #[.slice none 0 0, .slice none 0 0, .slice none 0 0, .slice none 0 0, .slice none 0 0] 48))
  dsimp only
  go_wp2_with (refine store_row (B := w2.heap.size) (cs := #[vs, vo, vl, vf, v1]) (old := #[.slice none 0 0, .slice none 0 0, .slice none 0 0, .slice none 0 0, .slice none 0 0]) (t := 48) rfl (ty := 48) (x := .tmp 7) (y := .tmp 29) rfl rfl rfl HO.out 5 (by kernel_rfl) rfl rfl HR2.out.one ?_; intro w3 hw3 hg3; have HL3 := hidden hw3; have HG3 := hidden hg3; obtain ⟨y0, y1, y2, y3, y4⟩ : w3.cell? ⟨w2.heap.size, 0, none⟩ = some vs ∧ w3.cell? ⟨w2.heap.size, 1, none⟩ = some vo ∧ w3.cell? ⟨w2.heap.size, 2, none⟩ = some vl ∧ w3.cell? ⟨w2.heap.size, 3, none⟩ = some vf ∧ w3.cell? ⟨w2.heap.size, 4, none⟩ = some v1 := ⟨cell_of_row _ _ 0 _ _ _ hw3, cell_of_row _ _ 1 _ _ _ hw3, cell_of_row _ _ 2 _ _ _ hw3, cell_of_row _ _ 3 _ _ _ hw3, cell_of_row _ _ 4 _ _ _ hw3⟩; clear hw3 hg3)
  have hB3 : Below w2.heap.size w2 w3 := ((Below.refl w2.heap.size w2).alloc (Nat.le_refl _) _).grown HG3.out (by simp) (fun j e => by simp only [Option.some.injEq] at e; omega)
  have hB4 := below_after HB2.out hB3
  have HK := hidden (KV.mk (w0 := w) (n0 := w2.heap.size) hB4 HL3.out (HR2.out.later hB3) (HV.out.later hB4) (HT.out.below hB4))
  obtain ⟨n0, hn0⟩ : ∃ n0, n0 = w2.heap.size := ⟨_, rfl⟩
  rw [← hn0] at HK ⊢
  clear hB3 hB4 HO HL3 HG3 hn0 y0 y1 y2 y3 y4
  refine (HR1.out _ HK.out.r).mono ?_
  rintro e w4 ⟨u, rfl, hr4, hb4⟩
  have HK4 := hidden (HK.out.more hb4)
  have HZ4 := hidden hr4.reads
  clear hr4 hb4
  go_wp2_with fail
  go_loopw [8, 9] (fun av i wr => ∃ (j : Nat) (o : Value), j ≤ s2.size ∧ o = av ∧ i = .int .i64 j ∧ RdZ wr.heap.size wr o (F j) ∧ KV w n0 vs vo vl vf v1 N (.slice a0 len0 cap0) T wr) (fun _ i _ => s2.size - (Go.RowKit.intOf i).toNat)
  case atStart => exact ⟨0, _, by omega, rfl, rfl, HZ4.out, HK4.out⟩
  case round =>
    clear HZ4 HK4 HK
    obtain ⟨j, o, hj, rfl, rfl, hz, hk⟩ := hrel
    have HZ := hidden hz
    have HK5 := hidden hk
    by_cases hlt : j < s2.size
    · obtain ⟨c, ⟨hp, hx⟩, hc, he⟩ := HBY.out j hlt
      obtain ⟨g, cap, rfl⟩ := hz.form
      have HKd := hidden (HK5.out.more (Below.refl _ _).drew)
      have HZd := hidden (HZ.out.later (Below.refl _ _).drew)
      have HCC := hidden (And.intro hc he)
      obtain ⟨y0, y1, y2, y3, y4⟩ := HKd.out.cells
      have hjj : j < 100 := by omega
      clear hz hk hc he
      go_wp2_with fail
      go_region_law ((go_simp; refine (HFM.out j hlt _ c HCC.out.1 HCC.out.2 HKd.out.r HZd.out).mono ?_; rintro e w5 ⟨v, rfl, hr5, hb5⟩; have HR5 := hidden hr5.reads; have HK6 := hidden (HKd.out.more hb5); clear hr5 hb5; dsimp only))
      all_goals go_wp2_with fail
      all_goals go_roundw
      all_goals first
        | (exact ⟨j + 1, _, by omega, rfl, by go_num, HR5.out, HK6.out⟩)
        | (simp [Go.RowKit.intOf]; omega)
    · obtain rfl : j = s2.size := by omega
      rw [HFA.out] at HZ hz
      obtain ⟨a8, c8, rfl⟩ := hz.form
      have HP := hidden (KP.mk HK5.out HZ.out)
      clear hz hk HZ HK5 hlt
      go_wp2_with fail
      refine wp_region_steps (typ (LPa a8 c8 c0 A D s1 s2 s3 vs vo vl vf v1)) (KP w n0 vs vo vl vf v1 N (.slice a0 len0 cap0) T (.slice a8 A.length c8) A) (by kernel_rfl) (by kernel_rfl) (by kernel_rfl) (by kernel_rfl) ?mono ?start [7, 18, 22] (by kernel_rfl) ?guards ?step ?fin
      case mono =>
        refine typ_mono ?_
        simp only [LPa, List.forall_mem_cons]
        repeat' (first | exact is_mono _ | exact rz_mono _ _ | (intro p hp; cases hp; done) | refine And.intro ?_ ?_)
      case start => exact HP.out.more (Below.refl _ _).drew
      case guards =>
        intro g hg v w h
        simp at hg
        rcases hg with rfl | rfl | rfl <;> exact h
      case fin =>
        intro a w1 hs hv hW
        rename_i Q' K hK
        refine hK a w1 ?_
        have h0 : a.tmps.getD 6 undef = .bool true := hv 25 6 (by kernel_rfl)
        have hd := hs.defers
        go_wp2
        refine bodyPost_ret (results_tmp rfl _ _ _) hd ?_
        rw [h0]
        exact ⟨rfl, hW.k.b⟩
      case step =>
        refine ⟨?_, ?_, ?_, ?_, ?_, ?_, ?_, ?_, ?_, ?_, ?_, ?_, ?_, ?_, ?_, ?_, ?_, ?_, ?_, ?_, ?_, ?_, ?_, ?_, ?_, ?_, trivial⟩
        · intro ρ w1 hF hW
          have HW := hidden hW
          clear hW
          have e7 : ρ 7 = .pointer (some ⟨n0, 0, none⟩) := hF 7 (by decide)
          clear hF
          obtain ⟨k0, k1, k2, k3, k4⟩ := HW.out.k.cells
          unfold Does
          go_simp
          exact ⟨rfl, HW.out, Below.refl _ _⟩
        · intro ρ w1 hF hW
          have HW := hidden hW
          clear hW
          have e1 : ρ 1 = .string s1 := hF 1 (by decide)
          clear hF
          unfold Does
          go_simp
          exact ⟨rfl, HW.out, Below.refl _ _⟩
        · intro ρ w1 hF hW
          have HW := hidden hW
          clear hW
          have e2 : ρ 2 = .string s2 := hF 2 (by decide)
          clear hF
          unfold Does
          go_simp
          exact ⟨rfl, HW.out, Below.refl _ _⟩
        · intro ρ w1 hF hW
          have HW := hidden hW
          clear hW
          have e46 : ρ 46 = .string s1 := hF 46 (by decide)
          have e47 : ρ 47 = .string s2 := hF 47 (by decide)
          clear hF
          have hgu := HSZ.out
          unfold Does
          go_simp
          exact ⟨rfl, HW.out, Below.refl _ _⟩
        · intro ρ w1 hF hW
          have HW := hidden hW
          clear hW
          have e45 : ρ 45 = .agg #[vs, vo, vl, vf, v1] := hF 45 (by decide)
          have e48 : ρ 48 = .string (s1 ++ s2) := hF 48 (by decide)
          clear hF
          unfold Does
          go_simp
          refine (HRA.out _ HW.out.k.r).mono ?_
          rintro e w2 ⟨v, rfl, hr, hb⟩
          exact ⟨_, rfl, rz_of hr.reads (Nat.le_refl _), HW.out.more hb, hb⟩
        · intro ρ w1 hF hW
          have HW := hidden hW
          clear hW
          have e8 : ρ 8 = .slice a8 A.length c8 := hF 8 (by decide)
          clear hF
          unfold Does
          go_simp
          exact ⟨rfl, HW.out, Below.refl _ _⟩
        · intro ρ w1 hF hW
          have HW := hidden hW
          clear hW
          obtain ⟨a49, c49, e49, h49⟩ : ∃ a c, ρ 49 = .slice a A.length c ∧ RdZ w1.heap.size w1 (.slice a A.length c) A := hF 49 (by decide)
          have e50 : ρ 50 = .slice a8 A.length c8 := hF 50 (by decide)
          clear hF
          unfold Does
          go_simp
          refine (HSA.out _ _ _ _ h49 HW.out.z).mono ?_
          rintro e w2 ⟨rfl, hb⟩
          exact ⟨_, rfl, rfl, HW.out.more hb, hb⟩
        · intro ρ w1 hF hW
          have HW := hidden hW
          clear hW
          have e51 : ρ 51 = .bool true := hF 51 (by decide)
          clear hF
          unfold Does
          go_simp
          exact ⟨rfl, HW.out, Below.refl _ _⟩
        · intro ρ w1 hF hW
          have HW := hidden hW
          clear hW
          have e7 : ρ 7 = .pointer (some ⟨n0, 0, none⟩) := hF 7 (by decide)
          clear hF
          obtain ⟨k0, k1, k2, k3, k4⟩ := HW.out.k.cells
          unfold Does
          go_simp
          exact ⟨rfl, HW.out, Below.refl _ _⟩
        · intro ρ w1 hF hW
          have HW := hidden hW
          clear hW
          have e1 : ρ 1 = .string s1 := hF 1 (by decide)
          clear hF
          unfold Does
          go_simp
          exact ⟨rfl, HW.out, Below.refl _ _⟩
        · intro ρ w1 hF hW
          have HW := hidden hW
          clear hW
          have e54 : ρ 54 = .string s1 := hF 54 (by decide)
          clear hF
          obtain ⟨hp0, hx0⟩ := HX0.out
          unfold Does
          go_simp
          exact ⟨rfl, HW.out, Below.refl _ _⟩
        · intro ρ w1 hF hW
          have HW := hidden hW
          clear hW
          have e53 : ρ 53 = .agg #[vs, vo, vl, vf, v1] := hF 53 (by decide)
          have e55 : ρ 55 = .int .u8 (c0 : Int) := hF 55 (by decide)
          clear hF
          unfold Does
          go_simp
          refine (HST.out _ HW.out.k.r).mono ?_
          rintro e w2 ⟨v, rfl, hr, hb⟩
          exact ⟨_, rfl, rz_of hr.reads (Nat.le_refl _), HW.out.more hb, hb⟩
        · intro ρ w1 hF hW
          have HW := hidden hW
          clear hW
          have e7 : ρ 7 = .pointer (some ⟨n0, 0, none⟩) := hF 7 (by decide)
          clear hF
          obtain ⟨k0, k1, k2, k3, k4⟩ := HW.out.k.cells
          unfold Does
          go_simp
          exact ⟨rfl, HW.out, Below.refl _ _⟩
        · intro ρ w1 hF hW
          have HW := hidden hW
          clear hW
          have e1 : ρ 1 = .string s1 := hF 1 (by decide)
          clear hF
          unfold Does
          go_simp
          exact ⟨rfl, HW.out, Below.refl _ _⟩
        · intro ρ w1 hF hW
          have HW := hidden hW
          clear hW
          have e58 : ρ 58 = .string s1 := hF 58 (by decide)
          clear hF
          have hgx := HSL.out; have hex := HEX.out
          unfold Does
          go_simp
          exact ⟨rfl, HW.out, Below.refl _ _⟩
        · intro ρ w1 hF hW
          have HW := hidden hW
          clear hW
          have e57 : ρ 57 = .agg #[vs, vo, vl, vf, v1] := hF 57 (by decide)
          have e59 : ρ 59 = .string s3 := hF 59 (by decide)
          clear hF
          unfold Does
          go_simp
          refine (HRO.out _ HW.out.k.r).mono ?_
          rintro e w2 ⟨v, rfl, hr, hb⟩
          exact ⟨_, rfl, rz_of hr.reads (Nat.le_refl _), HW.out.more hb, hb⟩
        · intro ρ w1 hF hW
          have HW := hidden hW
          clear hW
          obtain ⟨a56, c56, e56, h56⟩ : ∃ a c, ρ 56 = .slice a D.length c ∧ RdZ w1.heap.size w1 (.slice a D.length c) D := hF 56 (by decide)
          obtain ⟨a60, c60, e60, h60⟩ : ∃ a c, ρ 60 = .slice a D.length c ∧ RdZ w1.heap.size w1 (.slice a D.length c) D := hF 60 (by decide)
          clear hF
          unfold Does
          go_simp
          refine (HSD.out _ _ _ _ h56 h60).mono ?_
          rintro e w2 ⟨rfl, hb⟩
          exact ⟨_, rfl, rfl, HW.out.more hb, hb⟩
        · intro ρ w1 hF hW
          have HW := hidden hW
          clear hW
          have e52 : ρ 52 = .bool true := hF 52 (by decide)
          have e61 : ρ 61 = .bool true := hF 61 (by decide)
          clear hF
          unfold Does
          go_simp
          exact ⟨rfl, HW.out, Below.refl _ _⟩
        · intro ρ w1 hF hW
          have HW := hidden hW
          clear hW
          have e62 : ρ 62 = .bool true := hF 62 (by decide)
          clear hF
          unfold Does
          go_simp
          exact ⟨rfl, HW.out, Below.refl _ _⟩
        · intro ρ w1 hF hW
          have HW := hidden hW
          clear hW
          have e8 : ρ 8 = .slice a8 A.length c8 := hF 8 (by decide)
          clear hF
          unfold Does
          go_simp
          exact ⟨rfl, HW.out, Below.refl _ _⟩
        · intro ρ w1 hF hW
          have HW := hidden hW
          clear hW
          have e64 : ρ 64 = .slice a8 A.length c8 := hF 64 (by decide)
          clear hF
          unfold Does
          go_simp
          refine (HUP.out _ HW.out.z).mono ?_
          rintro e w2 ⟨rfl, hb⟩
          exact ⟨_, rfl, rfl, HW.out.more hb, hb⟩
        · intro ρ w1 hF hW
          have HW := hidden hW
          clear hW
          have e63 : ρ 63 = .bool true := hF 63 (by decide)
          have e65 : ρ 65 = .bool true := hF 65 (by decide)
          clear hF
          unfold Does
          go_simp
          exact ⟨rfl, HW.out, Below.refl _ _⟩
        · intro ρ w1 hF hW
          have HW := hidden hW
          clear hW
          have e66 : ρ 66 = .bool true := hF 66 (by decide)
          clear hF
          unfold Does
          go_simp
          exact ⟨rfl, HW.out, Below.refl _ _⟩
        · intro ρ w1 hF hW
          have HW := hidden hW
          clear hW
          clear hF
          unfold Does
          go_simp
          refine (knows12_calls _ HW.out.k.tab).mono ?_
          rintro e w2 ⟨rfl, hb⟩
          exact ⟨_, rfl, rfl, HW.out.more hb, hb⟩
        · intro ρ w1 hF hW
          have HW := hidden hW
          clear hW
          have e67 : ρ 67 = .bool true := hF 67 (by decide)
          have e68 : ρ 68 = .bool true := hF 68 (by decide)
          clear hF
          unfold Does
          go_simp
          exact ⟨rfl, HW.out, Below.refl _ _⟩
        · intro ρ w1 hF hW
          have HW := hidden hW
          clear hW
          have e69 : ρ 69 = .bool true := hF 69 (by decide)
          clear hF
          unfold Does
          go_simp
          exact ⟨rfl, HW.out, Below.refl _ _⟩
namespace lawFuseParts
open Go.ChangeShapes Go.WideShapes Go.ChangeAt Go.RowKit Go.Deep
open Go.ChangeMaps (open_string shut_string)

set_option maxRecDepth 100000 in
theorem lifted (os : Os) (started : os.Started) (H : Type) (enc : TypeId × Value → H) :
    ReturnsInHanded {} Tryd.checked os 9 .any (fun w args => (Rows.fusePartsSpec.pre enc Tryd.prog Tryd.f9 Rows.fusePartsRow.domain false w args ∧ laidMetH Tryd.prog [("math/bits.deBruijn64tab", Rows.laid_math_bits_deBruijn64tab)] w) ∧ sizedMet enc Tryd.prog Tryd.f9 (OpenSpec.ofChange Rows.fusePartsSpec) false w args)
      (Rows.fusePartsSpec.post enc Tryd.prog Tryd.f9 false true false false) := by
  refine returnsInHanded_of_change_and (C := Tryd.checked) (X := fun w _ => laidMetH Tryd.prog [("math/bits.deBruijn64tab", Rows.laid_math_bits_deBruijn64tab)] w) (fun _ _ _ hh h => h.of_heap hh) own started (by kernel_rfl) Tryd.func9
    (ChangeSpec.witness_shaped (enc := enc) (C := Tryd.checked) (os := os) (X := fun w _ => laidMetH Tryd.prog [("math/bits.deBruijn64tab", Rows.laid_math_bits_deBruijn64tab)] w) false (World.laidAll Tryd.prog os [("math/bits.deBruijn64tab", Rows.laid_math_bits_deBruijn64tab)]) #[.slice none 0 0, .string ⟨#[]⟩, .string ⟨#[]⟩] 8 (World.laidAll_os _ _ _)
      (World.shaped_of_ZipB (by kernel_rfl) (by kernel_rfl)) (by kernel_rfl) (by kernel_rfl) (by kernel_rfl)
      (by rw [MakeChecks.laidMetH_plain _ _ _ (by kernel_rfl)]; exact laidMet_laidAll _ (by kernel_rfl) (by kernel_rfl))) ?_
  intro W base args ds gs before hval0 hW hcnd _ hL _
  have hval : ∀ (j : Nat) t v, Tryd.f9.params[j]? = some t → args[j]? = some v → Value.okWide Tryd.prog W .any base t v := hval0
  have hW' : DataW.Whole enc Tryd.prog Tryd.f9.params.toList Rows.fusePartsSpec.vars false W args.toList ds gs before := hW
  obtain ⟨p, q, hA0, hV, rfl, hfz, hnd⟩ := hW
  have hA : DataW.TrodAll enc Tryd.prog W 0 (fun _ => true) true Tryd.f9.params.toList args.toList ds p := hA0
  have ht : Tab W := of_laid (by kernel_rfl) hL
  rw [Tryd.params9] at hA hval
  obtain ⟨v0, vs0, d0, ds0, p0, q0, hargs, hd0, hp0, h0, r0⟩ := trodAll_cons hA
  obtain ⟨v1, vs1, d1, ds1, p1, q1, rfl, hd1, hp1, h1, r1⟩ := trodAll_cons r0
  obtain ⟨v2, vs2, d2, ds2, p2, q2, rfl, hd2, hp2, h2, r2⟩ := trodAll_cons r1
  obtain ⟨rfl, _, _⟩ := trodAll_nil r2
  obtain rfl : args = #[v0, v1, v2] := by cases args; simp_all
  obtain ⟨a0, len0, cap0, rfl⟩ := okWide_slice Tryd.underlying43 (hval 0 43 v0 rfl rfl)
  obtain ⟨z0, w0⟩ := open_toks h0
  obtain ⟨a1, rfl, _, _, w1⟩ := open_string Tryd.underlying9 (hval 1 9 v1 rfl rfl) h1
  obtain ⟨a2, rfl, _, _, w2⟩ := open_string Tryd.underlying9 (hval 2 9 v2 rfl rfl) h2
  refine (walkFuParts a0 len0 cap0 z0 a1 a2 W w0 w1 w2 ht).mono fun e W' ⟨he, hb⟩ => ⟨_, he, ends_true hW' rfl (by kernel_rfl) ?_ (by kernel_rfl) hb⟩
  intro xs hxs
  match xs, hxs with
  | [_, _, _], _ => rfl

theorem proved : Rows.FusePartsSaid :=
  OpenClaim.holds_of_wide 9 Tryd.f9 rfl rfl rfl rfl rfl rfl rfl ⟨rfl, rfl, rfl, rfl, rfl⟩ rfl rfl rfl rfl rfl (by kernel_rfl) Tryd.func9 (by kernel_rfl)
    (of_decide_eq_true (by kernel_rfl)) (by unfold Func.isWrapper; first | (rw [if_pos (by decide +kernel)]; kernel_rfl) | (rw [if_neg (by decide +kernel)]; exact ⟨rfl, rfl⟩))
    (fun os started H enc _ => lifted os started H enc)

/-- the card: the row, and what it lists tied to the program's text -/
theorem card : Rows.FusePartsCardSaid :=
  Claim7.holds_tied_plain_at .later [] [.data] true (true, "2d7a7cdab9648aa92af065527db2f9159c0a253275d1700557e608e94f046fb4") false
    proved (fun _ h => by cases h) (by kernel_rfl) (fun _ h => by cases h) fuseParts_row_tie rfl ⟨rfl, rfl⟩ (by kernel_rfl) rfl
    (fun f fn hf hfn => by
      obtain rfl : f = 9 := Option.some.inj ((show Tryd.prog.funcNamed "facsimile/facsimilelaw12.FuseParts" = some 9 by kernel_rfl).symm.trans hf) |>.symm
      obtain rfl : fn = Tryd.f9 := (Option.some.inj (Tryd.func9.symm.trans hfn)).symm
      exact ⟨by kernel_rfl, fun j t ht => by
        rw [Tryd.params9] at ht
        have hm : t ∈ [43, 9, 9] := by simpa using Array.mem_of_getElem? ht
        have hall : ([43, 9, 9].all fun u => !Tryd.prog.wantsStandIn u) = true := by kernel_rfl
        exact (show Tryd.prog.wantsStandIn t = false by simpa using List.all_eq_true.1 hall t hm)⟩)
    (by kernel_rfl)

end lawFuseParts
end Go.Proofs.YtbokhofdgdcpdaaDoor
