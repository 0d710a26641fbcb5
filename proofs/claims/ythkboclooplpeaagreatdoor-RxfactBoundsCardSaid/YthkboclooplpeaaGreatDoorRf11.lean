/- FaRdB, FaRdT, put together. -/
import Derived.Test.YthkboclooplpeaaGreatDoorRf10
/- The reference's reader: a branch, a text, an atom in brackets; at what the statements read. -/
namespace Go.Proofs.YthkboclooplpeaaGreatDoor
open Go.RowKit Go.Lib Go.Joins

theorem Rd.later {w w0 : World} {L : List Stp} {n : Nat} {e : Ending} {w' : World} (h : Rd w L n e w') (hb : Below w0.heap.size w0 w) : Rd w0 L n e w' := by
  obtain ⟨v, h1, h2, h3⟩ := h
  exact ⟨v, h1, h2.lower hb.size, below_after hb h3⟩
/-- the parts of a branch: where each begins, what it has, where it ends, whether a star stands behind it -/
structure Part where
  p : Nat
  n : Nat
  star : Bool
  L : List Stp
def Part.all (x : Part) : List Stp := if x.star = true then x.L ++ [kStp 5] else x.L
def Part.to (x : Part) : Nat := if x.star = true then x.n + 1 else x.n
/-- no sign of a repetition stands at a place -/
def NoRep (s : ByteArray) (q : Nat) : Prop := q = s.size ∨ ∃ c, At s q c ∧ c ∉ ([42, 43, 63] : List UInt8)
def Stops (s : ByteArray) (q : Nat) : Prop := q = s.size ∨ At s q 124 ∨ At s q 41
structure PartOk (s : ByteArray) (w : World) (x : Part) : Prop where
  lt : x.n ≤ s.size
  beg : ∃ c, At s x.p c ∧ c ≠ 124 ∧ c ≠ 41
  atom : ∀ W, Below w.heap.size w W → Calls Tryz.prog 113 #[.string s, .int .i64 (x.p : Int)] W (Rd W x.L x.n)
  rep : if x.star = true then At s x.n 42 ∧ NoRep s (x.n + 1) else NoRep s x.n
  few : x.L.length ≤ 1000
  adv : x.p < x.n
theorem Part.adv {s : ByteArray} {w : World} {x : Part} (h : PartOk s w x) : x.p < x.to := by
  have := h.adv
  unfold Part.to
  split <;> omega
theorem rep_in (c : UInt8) (W : World) : Calls Tryz.prog 114 #[.string ⟨#[42, 43, 63]⟩, .int .u8 (c.toNat : Int)] W fun e w' => e = .returned (.bool (decide (c ∈ ([42, 43, 63] : List UInt8)))) ∧ W = w' := in_calls [42, 43, 63] c W (by decide)
theorem rep_no {c : UInt8} (h : c ∉ ([42, 43, 63] : List UInt8)) (W : World) : Calls Tryz.prog 114 #[.string ⟨#[42, 43, 63]⟩, .int .u8 (c.toNat : Int)] W fun e w' => e = .returned (.bool false) ∧ W = w' := by
  have := rep_in c W
  simpa only [decide_eq_false h] using this
theorem rep_star (W : World) : Calls Tryz.prog 114 #[.string ⟨#[42, 43, 63]⟩, .int .u8 42] W fun e w' => e = .returned (.bool true) ∧ W = w' := rep_in 42 W
set_option maxHeartbeats 8000000 in
set_option maxRecDepth 100000 in
theorem rbranch_calls (s : ByteArray) (w : World) (hs : s.size ≤ 1000) (l : List Part) (p : Nat) (hl : l.length ≤ 100) (pos : Nat → Nat) (h0 : pos 0 = p) (hok : ∀ j, j < l.length → ∃ x, l[j]? = some x ∧ PartOk s w x ∧ pos j = x.p ∧ pos (j + 1) = x.to) (hps : ∀ j, j ≤ l.length → pos j ≤ s.size) (hst : Stops s (pos l.length)) (hsz : (catV (l.map Part.all)).length ≤ 1000) :
    Calls Tryz.prog 96 #[.string s, .int .i64 (p : Int)] w (Rd w (catV (l.map Part.all)) (pos l.length)) := by
  have HOK := hidden hok
  have HPS := hidden hps
  have HST := hidden hst
  have HSZ := hidden hsz
  have HTK := hidden (fun j x (h : l[j]? = some x) => (show (l.take (j + 1)).map Part.all = (l.take j).map Part.all ++ [x.all] ∧ ((l.take j).map Part.all).length = j from by
    have hj : j < l.length := (List.getElem?_eq_some_iff.1 h).1
    rw [List.take_add_one, h]
    simp
    omega))
  subst h0
  obtain ⟨m, hm⟩ : ∃ m, m = l.length := ⟨_, rfl⟩
  rw [← hm] at HOK HPS HST hl ⊢
  have HM := hidden hm
  clear hok hps hst hsz hm
  go_enter Tryz.func96, Tryz.ntmps96
  go_wp2
  go_loopw [1, 7, 8, 9, 10, 11] (fun at1 pv _ _ _ _ wr => ∃ (j : Nat) (parts : Value), j ≤ m ∧ at1 = .int .i64 (pos j : Nat) ∧ parts = pv ∧ Sg w ((l.take j).map Part.all) parts wr) (fun at1 _ _ _ _ _ _ => s.size + 1 - (intOf at1).toNat)
  case atStart => exact ⟨0, _, by omega, rfl, rfl, Sg.nil w _ rfl _ rfl⟩
  case round =>
    obtain ⟨j, parts, hj, rfl, rfl, hp⟩ := hrel
    have HP := hidden hp
    clear hp
    have hpj := HPS.out j hj
    by_cases hlt : j < m
    · obtain ⟨x, hx, hX, e1, e2⟩ := HOK.out j hlt
      have hn2 := HPS.out (j + 1) (by omega)
      obtain ⟨c, hc, c1, c2⟩ := hX.beg
      have q1 : ((c.toNat : Int) != 124) = true := by have h : ((c.toNat : Int) == 124) = false := toNat_ne (d := 124) c1; rw [bne, h]; rfl
      have q2 : ((c.toNat : Int) != 41) = true := by have h : ((c.toNat : Int) == 41) = false := toNat_ne (d := 41) c2; rw [bne, h]; rfl
      have HAT := hidden (hX.atom wr HP.out.frame)
      have HREP := hidden (show (x.star = true ∧ x.to = x.n + 1 ∧ x.all = x.L ++ [kStp 5] ∧ At s x.n 42 ∧ NoRep s x.to) ∨ (x.star = false ∧ x.to = x.n ∧ x.all = x.L ∧ NoRep s x.to) from by
        have hr := hX.rep
        unfold Part.to Part.all
        cases hb : x.star
        · rw [hb] at hr
          exact .inr ⟨rfl, rfl, rfl, hr⟩
        · rw [hb] at hr
          exact .inl ⟨rfl, rfl, rfl, hr.1, hr.2⟩)
      have hnl := hX.lt
      have hfew := hX.few
      have HADV := hidden (Part.adv hX)
      have hadv2 := hX.adv
      obtain ⟨t1, t2⟩ := HTK.out j x hx
      have HT1 := hidden t1
      have HT2 := hidden t2
      rw [e2] at hn2
      have HE2 := hidden e2
      generalize Part.to x = xto at *
      generalize Part.all x = xall at *
      obtain ⟨qq, qs, st, L⟩ := x
      simp only at e1 hc HAT HREP hnl hfew hadv2 HADV
      rw [e1] at hpj ⊢
      obtain ⟨hp, hxc⟩ := hc
      have q0 : decide ((qq : Int) < (s.size : Int)) = true := decide_eq_true (by omega)
      have q0' : decide (qq < s.size) = true := decide_eq_true (by omega)
      generalize (c.toNat : Int) = n at *
      clear c1 c2 t1 t2 hX hx e1 e2
      go_wp2_with fail
      refine HAT.out.mono ?_
      rintro e w1 ⟨v, rfl, hr, hb1⟩
      have HP1 := hidden (HP.out.below hb1)
      have HV1 := hidden hr.typed
      obtain ⟨a1, l1, c1, rfl⟩ := rowX_slice hr
      clear hr hb1
      go_wp2
      go_loopw [8, 9, 11] (fun lv nx _ wr2 => ∃ (a2 : Option Addr) (l2 c2 : Nat) (M : List Stp) (q' : Nat), lv = .slice a2 l2 c2 ∧ nx = .int .i64 (q' : Nat) ∧ Sg w ((l.take j).map Part.all) parts wr2 ∧ SlX (Typed wr2) wr2 (.slice a2 l2 c2) M ∧ Hid ((M = L ∧ q' = qs ∧ st = true) ∨ (M = xall ∧ q' = xto))) (fun _ nx _ _ => s.size + 1 - (intOf nx).toNat)
      case atStart =>
        refine ⟨a1, l1, c1, L, qs, rfl, rfl, HP1.out, HV1.out, hidden ?_⟩
        rcases HREP.out with ⟨r1, r2, r3, r4, r5⟩ | ⟨r1, r2, r3, r4⟩
        · exact .inl ⟨rfl, rfl, r1⟩
        · exact .inr ⟨r3.symm, r2.symm⟩
      case round =>
        obtain ⟨a2, l2, c2, M, q', rfl, rfl, hp2, hv2, hM⟩ := hrel
        have HP2 := hidden hp2
        have HV2 := hidden hv2
        clear hp2 hv2
        rcases hM.out with ⟨rfl, rfl, hst⟩ | ⟨rfl, rfl⟩
        · have HR := hidden (show xto = q' + 1 ∧ xall = M ++ [kStp 5] ∧ At s q' 42 from by
            rcases HREP.out with ⟨r1, r2, r3, r4, r5⟩ | ⟨r1, r2, r3, r4⟩
            · exact ⟨r2, r3, r4⟩
            · rw [r1] at hst; cases hst)
          obtain ⟨hp3, hx3⟩ := HR.out.2.2
          have hx3 : ((s[q']'hp3).toNat : Int) = 42 := hx3
          have g0 : decide ((q' : Int) < (s.size : Int)) = true := decide_eq_true (by omega)
          have g0' : decide (q' < s.size) = true := decide_eq_true (by omega)
          clear hM hst
          go_wp2_with fail
          refine (rep_star _).mono ?_
          rintro e w3 ⟨rfl, rfl⟩
          go_wp2_with fail
          refine (onex_calls _ 5 _ M HV2.out (fun b hb => typed_lt hb) (by omega)).mono ?_
          rintro e w3 ⟨u, rfl, hr3, hb3⟩
          have HP3 := hidden (HP2.out.below hb3)
          have HV3 := hidden hr3.typed
          obtain ⟨a3, l3, c3, rfl⟩ := rowX_slice hr3
          clear hr3 hb3
          go_wp2
          go_roundw
          case rel => exact ⟨a3, l3, c3, M ++ [kStp 5], q' + 1, rfl, by go_num, HP3.out, HV3.out, hidden (.inr ⟨HR.out.2.1.symm, HR.out.1.symm⟩)⟩
          case measure => simp [intOf]; omega
        · have HNR := hidden (show NoRep s q' from by
            rcases HREP.out with ⟨r1, r2, r3, r4, r5⟩ | ⟨r1, r2, r3, r4⟩
            · exact r5
            · exact r4)
          have hN := HNR.out
          clear hM
          have HADV' := HADV.out
          rcases hN with hq | ⟨d, ⟨hp3, hx3⟩, hd⟩
          case' inl =>
            have g0 : decide ((q' : Int) < (s.size : Int)) = false := decide_eq_false (by omega)
            have g0' : decide (q' < s.size) = false := decide_eq_false (by omega)
            clear hq
            go_wp2_with (at_builtin; refine app_sg rfl _ _ rfl rfl (HP2.out.below ((Below.refl _ _).alloc (Nat.le_refl _) (.cells #[.slice a2 l2 c2] 22))) rfl (heap_alloc_new _ _) rfl (typed_below HV2.out ((Below.refl _ _).alloc (Nat.le_refl _) (.cells #[.slice a2 l2 c2] 22))) HT2.out (by omega) ?_; intro g' c' w4 hS4)
          case' inr =>
            have g0 : decide ((q' : Int) < (s.size : Int)) = true := decide_eq_true (by omega)
            have g0' : decide (q' < s.size) = true := decide_eq_true (by omega)
            have HRN := hidden (fun W => rep_no hd W)
            generalize (d.toNat : Int) = nd at *
            clear hd
            go_wp2_with fail
            refine (HRN.out _).mono ?_
            rintro e w3 ⟨rfl, rfl⟩
            go_wp2_with (at_builtin; refine app_sg rfl _ _ rfl rfl (HP2.out.below ((Below.refl _ _).alloc (Nat.le_refl _) (.cells #[.slice a2 l2 c2] 22))) rfl (heap_alloc_new _ _) rfl (typed_below HV2.out ((Below.refl _ _).alloc (Nat.le_refl _) (.cells #[.slice a2 l2 c2] 22))) HT2.out (by omega) ?_; intro g' c' w4 hS4)
          all_goals
            have HS4 := hidden hS4
            clear hS4
            rw [← HT1.out] at HS4
            go_wp2
            go_roundw
            case rel => exact ⟨j + 1, _, by omega, by rw [HE2.out], rfl, HS4.out⟩
            case measure => simp [intOf]; omega
    · obtain rfl : j = m := by omega
      have HA := hidden HP.out.all
      rw [List.take_of_length_le (by rw [HM.out]; exact Nat.le_refl _)] at HA HP
      have HC := hidden (rcat_calls wr _ _ HA.out (fun b hb => hb) (by have := HSZ.out; omega))
      have HB := hidden HP.out.frame
      have hE := HST.out
      rcases hE with hq | ⟨hp3, hx3⟩ | ⟨hp3, hx3⟩
      case' inl =>
        have g0 : decide (((pos j : Nat) : Int) < (s.size : Int)) = false := decide_eq_false (by omega)
        have g0' : decide (pos j < s.size) = false := decide_eq_false (by omega)
        clear hq
      case' inr.inl =>
        have hx3 : ((s[pos j]'hp3).toNat : Int) = 124 := hx3
        have g0 : decide (((pos j : Nat) : Int) < (s.size : Int)) = true := decide_eq_true (by omega)
        have g0' : decide (pos j < s.size) = true := decide_eq_true (by omega)
      case' inr.inr =>
        have hx3 : ((s[pos j]'hp3).toNat : Int) = 41 := hx3
        have g0 : decide (((pos j : Nat) : Int) < (s.size : Int)) = true := decide_eq_true (by omega)
        have g0' : decide (pos j < s.size) = true := decide_eq_true (by omega)
      all_goals
        go_wp2_with fail
        refine HC.out.mono ?_
        rintro e w2 ⟨v, rfl, hr, hb2⟩
        obtain ⟨a1, l1, c1, rfl⟩ := rowX_slice hr
        have HR := hidden (And.intro (hr.lower HB.out.size) (below_then HB.out HB.out.size hb2))
        clear hr hb2
        go_wp2
        go_ret3
        exact ⟨_, rfl, HR.out.1, HR.out.2⟩
end Go.Proofs.YthkboclooplpeaaGreatDoor

/- The reference's reader: a text, an atom in brackets, and what it reads of the one text that the statements read. -/
namespace Go.Proofs.YthkboclooplpeaaGreatDoor
open Go.RowKit Go.Lib Go.Joins

/-- the branches of a text: where each begins, what it has, where it ends -/
structure Bra where
  p : Nat
  n : Nat
  L : List Stp
structure BraOk (s : ByteArray) (w : World) (x : Bra) : Prop where
  lt : x.n ≤ s.size
  adv : x.p ≤ x.n
  call : ∀ W, Below w.heap.size w W → Calls Tryz.prog 96 #[.string s, .int .i64 (x.p : Int)] W (Rd W x.L x.n)
set_option maxHeartbeats 8000000 in
set_option maxRecDepth 100000 in
theorem rtext_calls (s : ByteArray) (w : World) (hs : s.size ≤ 1000) (x0 : Bra) (l : List Bra) (hl : l.length ≤ 100) (hx0 : BraOk s w x0) (pos : Nat → Nat) (hp0 : pos 0 = x0.n) (hok : ∀ j, j < l.length → ∃ x, l[j]? = some x ∧ BraOk s w x ∧ At s (pos j) 124 ∧ x.p = pos j + 1 ∧ pos (j + 1) = x.n) (hps : ∀ j, j ≤ l.length → pos j ≤ s.size) (hst : pos l.length = s.size ∨ ∃ c, At s (pos l.length) c ∧ c ≠ 124) (hsz : (altV ((x0 :: l).map Bra.L)).length ≤ 1000) :
    Calls Tryz.prog 70 #[.string s, .int .i64 (x0.p : Int)] w (Rd w (altV ((x0 :: l).map Bra.L)) (pos l.length)) := by
  have HX0 := hidden (hx0.call w (Below.refl _ _))
  have HOK := hidden hok
  have HPS := hidden hps
  have HST := hidden hst
  have HSZ := hidden hsz
  have HTK := hidden (fun j x (h : l[j]? = some x) => (show ((x0 :: l).take (j + 2)).map Bra.L = ((x0 :: l).take (j + 1)).map Bra.L ++ [x.L] ∧ (((x0 :: l).take (j + 1)).map Bra.L).length = j + 1 from by
    have hj : j < l.length := (List.getElem?_eq_some_iff.1 h).1
    rw [List.take_succ_cons, List.take_succ_cons, List.take_add_one, h]
    simp
    omega))
  have HTE := hidden (show ((x0 :: l).take (l.length + 1)).map Bra.L = (x0 :: l).map Bra.L from by rw [List.take_of_length_le (by simp)])
  have HT0 := hidden (show ((x0 :: l).take (0 + 1)).map Bra.L = [x0.L] from rfl)
  rw [← hp0] at HX0
  generalize (x0 :: l).map Bra.L = LL at *
  obtain ⟨m, hm⟩ : ∃ m, m = l.length := ⟨_, rfl⟩
  rw [← hm] at HOK HPS HST hl HTE ⊢
  generalize x0.p = p0 at *
  clear hok hps hst hsz hm hx0 hp0
  go_enter Tryz.func70, Tryz.ntmps70
  go_wp2_with fail
  refine HX0.out.mono ?_
  rintro e w1 ⟨v, rfl, hr, hb1⟩
  have HS1 := hidden (Sg.one hb1 hr.typed _ rfl)
  rw [← HT0.out] at HS1
  obtain ⟨a1, l1, c1, rfl⟩ := rowX_slice hr
  clear hr hb1
  go_wp2
  go_loopw [7, 8, 9, 10] (fun _ nx ok pv wr => ∃ (j : Nat) (parts : Value), j ≤ m ∧ nx = .int .i64 (pos j : Nat) ∧ ok = .bool true ∧ parts = pv ∧ Sg w (((x0 :: l).take (j + 1)).map Bra.L) parts wr) (fun _ nx _ _ _ => s.size + 1 - (intOf nx).toNat)
  case atStart => exact ⟨0, _, by omega, rfl, rfl, rfl, HS1.out⟩
  case round =>
    obtain ⟨j, parts, hj, rfl, rfl, rfl, hp⟩ := hrel
    have HP := hidden hp
    clear hp
    have hpj := HPS.out j hj
    by_cases hlt : j < m
    · obtain ⟨x, hx, hX, hat, e1, e2⟩ := HOK.out j hlt
      have HAT := hidden (hX.call wr HP.out.frame)
      have hadv := hX.adv
      obtain ⟨t1, t2⟩ := HTK.out j x hx
      have HT1 := hidden t1
      have HT2 := hidden t2
      have HE2 := hidden e2
      have hnl := hX.lt
      obtain ⟨hp3, hx3⟩ := hat
      have hx3 : ((s[pos j]'hp3).toNat : Int) = 124 := hx3
      have g0 : decide (((pos j : Nat) : Int) < (s.size : Int)) = true := decide_eq_true (by omega)
      have g0' : decide (pos j < s.size) = true := decide_eq_true (by omega)
      have hadd : IntKind.i64.wrap (((pos j : Nat) : Int) + 1) = (x.p : Int) := by rw [IntKind.wrap_i64]; omega
      have HLT := hidden (show pos j < pos (j + 1) from by omega)
      rw [← e2] at HAT hnl
      generalize x.p = xp at *
      generalize x.L = xL at *
      clear t1 t2 hX hx e1 e2 hadv
      go_wp2_with fail
      refine HAT.out.mono ?_
      rintro e w2 ⟨v, rfl, hr, hb2⟩
      have HP2 := hidden ((HP.out.below hb2).below ((Below.refl w2.heap.size w2).alloc (Nat.le_refl _) (.cells #[v] 22)))
      have HV2 := hidden (typed_below hr.typed ((Below.refl w2.heap.size w2).alloc (Nat.le_refl _) (.cells #[v] 22)))
      obtain ⟨a2, l2, c2, rfl⟩ := rowX_slice hr
      clear hr hb2
      go_wp2_with (at_builtin; refine app_sg rfl _ _ rfl rfl HP2.out rfl (heap_alloc_new _ _) rfl HV2.out HT2.out (by omega) ?_; intro g' c' w4 hS4)
      have HS4 := hidden hS4
      clear hS4
      rw [← HT1.out] at HS4
      have hlt2 := HLT.out
      go_wp2
      go_roundw
      case rel => exact ⟨j + 1, _, by omega, rfl, rfl, rfl, HS4.out⟩
      case measure => simp [intOf]; omega
    · obtain rfl : j = m := by omega
      rw [HTE.out] at HP
      have HA := hidden HP.out.all
      have HC := hidden (ralt_calls wr _ _ HA.out (fun b hb => hb) (by have := HSZ.out; omega))
      have HB := hidden HP.out.frame
      have hE := HST.out
      rcases hE with hq | ⟨c, ⟨hp3, hx3⟩, hc⟩
      case' inl =>
        have g0 : decide (((pos j : Nat) : Int) < (s.size : Int)) = false := decide_eq_false (by omega)
        have g0' : decide (pos j < s.size) = false := decide_eq_false (by omega)
        clear hq
      case' inr =>
        have g0 : decide (((pos j : Nat) : Int) < (s.size : Int)) = true := decide_eq_true (by omega)
        have g0' : decide (pos j < s.size) = true := decide_eq_true (by omega)
        have q1 : ((c.toNat : Int) == 124) = false := toNat_ne (d := 124) hc
        generalize (c.toNat : Int) = nc at *
        clear hc
      all_goals
        go_wp2_with fail
        refine HC.out.mono ?_
        rintro e w2 ⟨v, rfl, hr, hb2⟩
        obtain ⟨a1, l1, c1, rfl⟩ := rowX_slice hr
        have HR := hidden (And.intro (hr.lower HB.out.size) (below_then HB.out HB.out.size hb2))
        clear hr hb2
        go_wp2
        go_ret3
        exact ⟨_, rfl, HR.out.1, HR.out.2⟩
set_option maxHeartbeats 2000000 in
set_option maxRecDepth 100000 in
theorem ratom_in (s : ByteArray) (p n : Nat) (L : List Stp) (w : World) (h1 : At s p 40) (h2 : At s n 41) (hs : s.size ≤ 1000) (H : Calls Tryz.prog 70 #[.string s, .int .i64 ((p + 1 : Nat) : Int)] w (Rd w L n)) :
    Calls Tryz.prog 113 #[.string s, .int .i64 (p : Int)] w (Rd w L (n + 1)) := by
  have HT := hidden H
  obtain ⟨hp, hx⟩ := h1
  obtain ⟨hp2, hx2⟩ := h2
  have hx : ((s[p]'hp).toNat : Int) = 40 := hx
  have hx2 : ((s[n]'hp2).toNat : Int) = 41 := hx2
  have q0 : decide ((p : Int) < (s.size : Int)) = true := decide_eq_true (by omega)
  have q0' : decide (p < s.size) = true := decide_eq_true (by omega)
  have g0 : decide ((s.size : Int) ≤ (n : Int)) = false := decide_eq_false (by omega)
  have g0' : decide (s.size ≤ n) = false := decide_eq_false (by omega)
  have hadd : IntKind.i64.wrap ((p : Int) + 1) = ((p + 1 : Nat) : Int) := by rw [IntKind.wrap_i64]; omega
  have hadd2 : IntKind.i64.wrap ((n : Int) + 1) = ((n + 1 : Nat) : Int) := by rw [IntKind.wrap_i64]; omega
  clear H
  go_enter Tryz.func113, Tryz.ntmps113
  go_wp2_with fail
  refine HT.out.mono ?_
  rintro e w1 ⟨v, rfl, hr, hb1⟩
  obtain ⟨a1, l1, c1, rfl⟩ := rowX_slice hr
  go_wp2
  go_ret3
  exact ⟨_, rfl, hr, hb1⟩

/-! ### "(a|b)*c" -/
def kTxt : ByteArray := ⟨#[40, 97, 124, 98, 41, 42, 99]⟩
def bS (c : UInt8) : Stp := sStp (fOne c.toNat)
def kL : List Stp := [bS 97, bS 98, kStp 4, kStp 5, bS 99, kStp 3]
theorem k_plain (c : UInt8) (h : c = 97 ∨ c = 98 ∨ c = 99) : Plain c := by
  rcases h with rfl | rfl | rfl <;> exact ⟨by decide, by decide, by decide⟩
theorem k_at : At kTxt 0 40 ∧ At kTxt 1 97 ∧ At kTxt 2 124 ∧ At kTxt 3 98 ∧ At kTxt 4 41 ∧ At kTxt 5 42 ∧ At kTxt 6 99 :=
  ⟨⟨by decide, rfl⟩, ⟨by decide, rfl⟩, ⟨by decide, rfl⟩, ⟨by decide, rfl⟩, ⟨by decide, rfl⟩, ⟨by decide, rfl⟩, ⟨by decide, rfl⟩⟩
theorem k_size : kTxt.size = 7 := rfl
theorem k_branch1 (w : World) : Calls Tryz.prog 96 #[.string kTxt, .int .i64 ((1 : Nat) : Int)] w (Rd w [bS 97] 2) := by
  obtain ⟨a0, a1, a2, a3, a4, a5, a6⟩ := k_at
  refine rbranch_calls kTxt w (by decide) [⟨1, 2, false, [bS 97]⟩] 1 (by decide) (fun j => j + 1) rfl ?_ ?_ (.inr (.inl a2)) (by decide)
  · intro j hj
    obtain rfl : j = 0 := by simpa using hj
    exact ⟨_, rfl, ⟨by decide, ⟨97, a1, by decide, by decide⟩, fun W _ => ratom_at kTxt 1 97 W a1 (by decide) (k_plain 97 (.inl rfl)), .inr ⟨124, a2, by decide⟩, by decide, by decide⟩, rfl, rfl⟩
  · intro j hj
    simp at hj
    rw [k_size]
    omega
theorem k_branch3 (w : World) : Calls Tryz.prog 96 #[.string kTxt, .int .i64 ((3 : Nat) : Int)] w (Rd w [bS 98] 4) := by
  obtain ⟨a0, a1, a2, a3, a4, a5, a6⟩ := k_at
  refine rbranch_calls kTxt w (by decide) [⟨3, 4, false, [bS 98]⟩] 3 (by decide) (fun j => j + 3) rfl ?_ ?_ (.inr (.inr a4)) (by decide)
  · intro j hj
    obtain rfl : j = 0 := by simpa using hj
    exact ⟨_, rfl, ⟨by decide, ⟨98, a3, by decide, by decide⟩, fun W _ => ratom_at kTxt 3 98 W a3 (by decide) (k_plain 98 (.inr (.inl rfl))), .inr ⟨41, a4, by decide⟩, by decide, by decide⟩, rfl, rfl⟩
  · intro j hj
    simp at hj
    rw [k_size]
    omega
theorem k_text1 (w : World) : Calls Tryz.prog 70 #[.string kTxt, .int .i64 ((1 : Nat) : Int)] w (Rd w [bS 97, bS 98, kStp 4] 4) := by
  obtain ⟨a0, a1, a2, a3, a4, a5, a6⟩ := k_at
  refine rtext_calls kTxt w (by decide) ⟨1, 2, [bS 97]⟩ [⟨3, 4, [bS 98]⟩] (by decide) ⟨by decide, by decide, fun W _ => k_branch1 W⟩ (fun j => 2 * j + 2) rfl ?_ ?_ (.inr ⟨41, a4, by decide⟩) (by decide)
  · intro j hj
    obtain rfl : j = 0 := by simpa using hj
    exact ⟨_, rfl, ⟨by decide, by decide, fun W _ => k_branch3 W⟩, a2, rfl, rfl⟩
  · intro j hj
    simp at hj
    rw [k_size]
    omega
theorem k_atom0 (w : World) : Calls Tryz.prog 113 #[.string kTxt, .int .i64 ((0 : Nat) : Int)] w (Rd w [bS 97, bS 98, kStp 4] 5) := by
  obtain ⟨a0, a1, a2, a3, a4, a5, a6⟩ := k_at
  exact ratom_in kTxt 0 4 _ w a0 a4 (by decide) (k_text1 w)
theorem k_branch0 (w : World) : Calls Tryz.prog 96 #[.string kTxt, .int .i64 ((0 : Nat) : Int)] w (Rd w kL 7) := by
  obtain ⟨a0, a1, a2, a3, a4, a5, a6⟩ := k_at
  refine rbranch_calls kTxt w (by decide) [⟨0, 5, true, [bS 97, bS 98, kStp 4]⟩, ⟨6, 7, false, [bS 99]⟩] 0 (by decide) (fun j => if j = 0 then 0 else if j = 1 then 6 else 7) rfl ?_ ?_ (.inl rfl) (by decide)
  · intro j hj
    have hj' : j = 0 ∨ j = 1 := by simp at hj; omega
    rcases hj' with rfl | rfl
    · exact ⟨_, rfl, ⟨by decide, ⟨40, a0, by decide, by decide⟩, fun W _ => k_atom0 W, ⟨a5, .inr ⟨99, a6, by decide⟩⟩, by decide, by decide⟩, rfl, rfl⟩
    · exact ⟨_, rfl, ⟨by decide, ⟨99, a6, by decide, by decide⟩, fun W _ => ratom_at kTxt 6 99 W a6 (by decide) (k_plain 99 (.inr (.inr rfl))), .inl rfl, by decide, by decide⟩, rfl, rfl⟩
  · intro j hj
    rw [k_size]
    split
    · omega
    · split <;> omega
theorem k_text0 (w : World) : Calls Tryz.prog 70 #[.string kTxt, .int .i64 ((0 : Nat) : Int)] w (Rd w kL 7) :=
  rtext_calls kTxt w (by decide) ⟨0, 7, kL⟩ [] (by decide) ⟨by decide, by decide, fun W _ => k_branch0 W⟩ (fun _ => 7) rfl (fun j hj => by simp at hj) (fun _ _ => by decide) (.inl rfl) (by decide)
set_option maxRecDepth 100000 in
theorem k_read (w : World) : Calls Tryz.prog 30 #[.string ⟨#[40, 97, 124, 98, 41, 42, 99]⟩] w fun e w' => (∃ v, e = .returned (.tuple #[v, .int .i64 7, .int .i64 0]) ∧ RowX w' w.heap.size v kL) ∧ Below w.heap.size w w' := by
  have HT := hidden (k_text0 w)
  go_enter Tryz.func30, Tryz.ntmps30
  go_wp2_with fail
  refine HT.out.mono ?_
  rintro e w1 ⟨v, rfl, hr, hb1⟩
  obtain ⟨a1, c1, rfl⟩ : ∃ a c, v = .slice a 6 c := by
    rcases ownsRow_forms hr with ⟨rfl, h0⟩ | ⟨g, cap, rfl⟩
    · cases h0
    · exact ⟨_, _, rfl⟩
  go_wp2
  go_ret3
  exact ⟨⟨_, rfl, hr⟩, hb1⟩
end Go.Proofs.YthkboclooplpeaaGreatDoor
