/- FaRdB, FaRdT, SpRSets, SpFols, put together. -/
import Derived.Test.YtnjjbaodfjmiaaaGreatLt05
import Derived.Test.YtnjjbaodfjmiaaaGreatLt08
import Derived.Test.YtnjjbaodfjmiaaaGreatLt04
import Derived.Test.YtnjjbaodfjmiaaaGreatLt12
import Derived.Test.YtnjjbaodfjmiaaaGreatLt15
import Derived.Test.YtnjjbaodfjmiaaaGreatLt07
import Derived.Test.YtnjjbaodfjmiaaaGreatLt16
/- The reference's reader: a branch, a text, an atom in brackets; at what the statements read. -/
namespace Go.Proofs.YtnjjbaodfjmiaaaGreat
open Go.RowKit Go.Lib Go.Joins

theorem Rd.later {w w0 : World} {L : List Stp} {n : Nat} {e : Ending} {w' : World} (h : Rd w L n e w') (hb : Below w0.heap.size w0 w) : Rd w0 L n e w' := by
  obtain ⟨v, h1, h2, h3⟩ := h
  exact ⟨v, h1, h2.lower hb.size, below_after hb h3⟩
/-- the parts of a branch: where each begins, what it has, where it ends, whether a star stands behind it -/
structure Part where
  p : Nat
  n : Nat
  sg : UInt8
  L : List Stp
/-- what a sign of a repetition stands for -/
def sgK (c : UInt8) : Int := if c = 43 then 6 else if c = 63 then 7 else 5
def Part.all (x : Part) : List Stp := if x.sg ≠ 0 then x.L ++ [kStp (sgK x.sg)] else x.L
def Part.to (x : Part) : Nat := if x.sg ≠ 0 then x.n + 1 else x.n
/-- no sign of a repetition stands at a place -/
def NoRep (s : ByteArray) (q : Nat) : Prop := q = s.size ∨ ∃ c, At s q c ∧ c ∉ ([42, 43, 63] : List UInt8)
def Stops (s : ByteArray) (q : Nat) : Prop := q = s.size ∨ At s q 124 ∨ At s q 41
structure PartOk (s : ByteArray) (w : World) (x : Part) : Prop where
  lt : x.n ≤ s.size
  beg : ∃ c, At s x.p c ∧ c ≠ 124 ∧ c ≠ 41
  atom : ∀ W, Below w.heap.size w W → Calls Tryz.prog 102 #[.string s, .int .i64 (x.p : Int)] W (Rd W x.L x.n)
  rep : if x.sg ≠ 0 then (x.sg = 42 ∨ x.sg = 43 ∨ x.sg = 63) ∧ At s x.n x.sg ∧ NoRep s (x.n + 1) else NoRep s x.n
  few : x.L.length ≤ 1000
  adv : x.p < x.n
theorem Part.adv {s : ByteArray} {w : World} {x : Part} (h : PartOk s w x) : x.p < x.to := by
  have := h.adv
  unfold Part.to
  split <;> omega
theorem rep_in (c : UInt8) (W : World) : Calls Tryz.prog 103 #[.string ⟨#[42, 43, 63]⟩, .int .u8 (c.toNat : Int)] W fun e w' => e = .returned (.bool (decide (c ∈ ([42, 43, 63] : List UInt8)))) ∧ W = w' := in_calls [42, 43, 63] c W (by decide)
theorem rep_no {c : UInt8} (h : c ∉ ([42, 43, 63] : List UInt8)) (W : World) : Calls Tryz.prog 103 #[.string ⟨#[42, 43, 63]⟩, .int .u8 (c.toNat : Int)] W fun e w' => e = .returned (.bool false) ∧ W = w' := by
  have := rep_in c W
  simpa only [decide_eq_false h] using this
theorem rep_sign (c : UInt8) (h : c = 42 ∨ c = 43 ∨ c = 63) (W : World) : Calls Tryz.prog 103 #[.string ⟨#[42, 43, 63]⟩, .int .u8 (c.toNat : Int)] W fun e w' => e = .returned (.bool true) ∧ W = w' := by
  have := rep_in c W
  rwa [decide_eq_true (show c ∈ ([42, 43, 63] : List UInt8) by rcases h with rfl | rfl | rfl <;> decide)] at this
set_option maxHeartbeats 8000000 in
set_option maxRecDepth 100000 in
theorem rbranch_calls (s : ByteArray) (w : World) (hs : s.size ≤ 1000) (l : List Part) (p : Nat) (hl : l.length ≤ 100) (pos : Nat → Nat) (h0 : pos 0 = p) (hok : ∀ j, j < l.length → ∃ x, l[j]? = some x ∧ PartOk s w x ∧ pos j = x.p ∧ pos (j + 1) = x.to) (hps : ∀ j, j ≤ l.length → pos j ≤ s.size) (hst : Stops s (pos l.length)) (hsz : (catV (l.map Part.all)).length ≤ 1000) :
    Calls Tryz.prog 88 #[.string s, .int .i64 (p : Int)] w (Rd w (catV (l.map Part.all)) (pos l.length)) := by
  have HOK := hidden hok
  have HPS := hidden hps
  have HST := hidden hst
  have HSZ := hidden hsz
  have HTK := hidden (fun j x (h : l[j]? = some x) => (show (l.take (j + 1)).map Part.all = (l.take j).map Part.all ++ [x.all] ∧ ((l.take j).map Part.all).length = j from by
    have hj : j < l.length := (List.getElem?_eq_some_iff.1 h).1
    rw [List.take_add_one, h]
    simp
    omega))
  subst h0
  obtain ⟨m, hm⟩ : ∃ m, m = l.length := ⟨_, rfl⟩
  rw [← hm] at HOK HPS HST hl ⊢
  have HM := hidden hm
  clear hok hps hst hsz hm
  go_enter Tryz.func88, Tryz.ntmps88
  go_wp2
  go_loopw [1, 7, 8, 9, 10, 11] (fun at1 pv _ _ _ _ wr => ∃ (j : Nat) (parts : Value), j ≤ m ∧ at1 = .int .i64 (pos j : Nat) ∧ parts = pv ∧ Sg w ((l.take j).map Part.all) parts wr) (fun at1 _ _ _ _ _ _ => s.size + 1 - (Go.RowKit.intOf at1).toNat)
  case atStart => exact ⟨0, _, by omega, rfl, rfl, Sg.nil w _ rfl _ rfl⟩
  case round =>
    obtain ⟨j, parts, hj, rfl, rfl, hp⟩ := hrel
    have HP := hidden hp
    clear hp
    have hpj := HPS.out j hj
    by_cases hlt : j < m
    · obtain ⟨x, hx, hX, e1, e2⟩ := HOK.out j hlt
      have hn2 := HPS.out (j + 1) (by omega)
      obtain ⟨c, hc, c1, c2⟩ := hX.beg
      have q1 : ((c.toNat : Int) != 124) = true := by have h : ((c.toNat : Int) == 124) = false := toNat_ne (d := 124) c1; rw [bne, h]; rfl
      have q2 : ((c.toNat : Int) != 41) = true := by have h : ((c.toNat : Int) == 41) = false := toNat_ne (d := 41) c2; rw [bne, h]; rfl
      have HAT := hidden (hX.atom wr HP.out.frame)
      have HREP := hidden (show (x.sg ≠ 0 ∧ x.to = x.n + 1 ∧ x.all = x.L ++ [kStp (sgK x.sg)] ∧ ((x.sg = 42 ∨ x.sg = 43 ∨ x.sg = 63) ∧ At s x.n x.sg) ∧ NoRep s x.to) ∨ (x.sg = 0 ∧ x.to = x.n ∧ x.all = x.L ∧ NoRep s x.to) from by
        have hr := hX.rep
        unfold Part.to Part.all
        by_cases hb : x.sg = 0
        · rw [if_neg (by simp [hb])] at hr
          rw [if_neg (by simp [hb]), if_neg (by simp [hb])]
          exact .inr ⟨hb, rfl, rfl, hr⟩
        · rw [if_pos hb] at hr
          rw [if_pos hb, if_pos hb]
          exact .inl ⟨hb, rfl, rfl, ⟨hr.1, hr.2.1⟩, hr.2.2⟩)
      have hnl := hX.lt
      have hfew := hX.few
      have HADV := hidden (Part.adv hX)
      have hadv2 := hX.adv
      obtain ⟨t1, t2⟩ := HTK.out j x hx
      have HT1 := hidden t1
      have HT2 := hidden t2
      rw [e2] at hn2
      have HE2 := hidden e2
      generalize Part.to x = xto at *
      generalize Part.all x = xall at *
      obtain ⟨qq, qs, st, L⟩ := x
      simp only at e1 hc HAT HREP hnl hfew hadv2 HADV
      rw [e1] at hpj ⊢
      obtain ⟨hp, hxc⟩ := hc
      have q0 : decide ((qq : Int) < (s.size : Int)) = true := decide_eq_true (by omega)
      have q0' : decide (qq < s.size) = true := decide_eq_true (by omega)
      generalize (c.toNat : Int) = n at *
      clear c1 c2 t1 t2 hX hx e1 e2
      go_wp2_with fail
      refine HAT.out.mono ?_
      rintro e w1 ⟨v, rfl, hr, hb1⟩
      have HP1 := hidden (HP.out.below hb1)
      have HV1 := hidden hr.typed
      obtain ⟨a1, l1, c1, rfl⟩ := rowX_slice hr
      clear hr hb1
      go_wp2
      go_loopw [8, 9, 11] (fun lv nx _ wr2 => ∃ (a2 : Option Addr) (l2 c2 : Nat) (M : List Stp) (q' : Nat), lv = .slice a2 l2 c2 ∧ nx = .int .i64 (q' : Nat) ∧ Sg w ((l.take j).map Part.all) parts wr2 ∧ SlX (Typed wr2) wr2 (.slice a2 l2 c2) M ∧ Hid ((M = L ∧ q' = qs ∧ st ≠ 0) ∨ (M = xall ∧ q' = xto))) (fun _ nx _ _ => s.size + 1 - (Go.RowKit.intOf nx).toNat)
      case atStart =>
        refine ⟨a1, l1, c1, L, qs, rfl, rfl, HP1.out, HV1.out, hidden ?_⟩
        rcases HREP.out with ⟨r1, r2, r3, r4, r5⟩ | ⟨r1, r2, r3, r4⟩
        · exact .inl ⟨rfl, rfl, r1⟩
        · exact .inr ⟨r3.symm, r2.symm⟩
      case round =>
        obtain ⟨a2, l2, c2, M, q', rfl, rfl, hp2, hv2, hM⟩ := hrel
        have HP2 := hidden hp2
        have HV2 := hidden hv2
        clear hp2 hv2
        rcases hM.out with ⟨rfl, rfl, hst⟩ | ⟨rfl, rfl⟩
        · have HR := hidden (show xto = q' + 1 ∧ xall = M ++ [kStp (sgK st)] ∧ (st = 42 ∨ st = 43 ∨ st = 63) ∧ At s q' st from by
            rcases HREP.out with ⟨r1, r2, r3, r4, r5⟩ | ⟨r1, r2, r3, r4⟩
            · exact ⟨r2, r3, r4⟩
            · exact absurd r1 hst)
          obtain ⟨hp3, hx0⟩ := HR.out.2.2.2
          have HSG := hidden HR.out.2.2.1
          have g0 : decide ((q' : Int) < (s.size : Int)) = true := decide_eq_true (by omega)
          have g0' : decide (q' < s.size) = true := decide_eq_true (by omega)
          have HRS := hidden (fun W => rep_sign st HSG.out W)
          clear hM hst
          rcases HSG.out with e3 | e3 | e3
          case' inl =>
            have hx3 : ((s[q']'hp3).toNat : Int) = 42 := hx0.trans (by rw [e3]; rfl)
            have HKK := hidden (show sgK st = 5 by rw [e3]; rfl)
            rw [show (st.toNat : Int) = 42 by rw [e3]; rfl] at HRS
          case' inr.inl =>
            have hx3 : ((s[q']'hp3).toNat : Int) = 43 := hx0.trans (by rw [e3]; rfl)
            have HKK := hidden (show sgK st = 6 by rw [e3]; rfl)
            rw [show (st.toNat : Int) = 43 by rw [e3]; rfl] at HRS
          case' inr.inr =>
            have hx3 : ((s[q']'hp3).toNat : Int) = 63 := hx0.trans (by rw [e3]; rfl)
            have HKK := hidden (show sgK st = 7 by rw [e3]; rfl)
            rw [show (st.toNat : Int) = 63 by rw [e3]; rfl] at HRS
          all_goals
            clear e3 HSG hx0
            go_wp2_with fail
            refine (HRS.out _).mono ?_
            rintro e w3 ⟨rfl, rfl⟩
            go_wp2_with fail
            refine (onex_calls _ _ _ M HV2.out (fun b hb => typed_lt hb) (by omega)).mono ?_
            rintro e w3 ⟨u, rfl, hr3, hb3⟩
            have HP3 := hidden (HP2.out.below hb3)
            have HV3 := hidden hr3.typed
            obtain ⟨a3, l3, c3, rfl⟩ := rowX_slice hr3
            clear hr3 hb3
            go_wp2
            go_roundw
            case rel => exact ⟨a3, l3, c3, _, q' + 1, rfl, by go_num, HP3.out, HV3.out, hidden (.inr ⟨by rw [HR.out.2.1, HKK.out], HR.out.1.symm⟩)⟩
            case measure => simp [Go.RowKit.intOf]; omega
        · have HNR := hidden (show NoRep s q' from by
            rcases HREP.out with ⟨r1, r2, r3, r4, r5⟩ | ⟨r1, r2, r3, r4⟩
            · exact r5
            · exact r4)
          have hN := HNR.out
          clear hM
          have HADV' := HADV.out
          rcases hN with hq | ⟨d, ⟨hp3, hx3⟩, hd⟩
          case' inl =>
            have g0 : decide ((q' : Int) < (s.size : Int)) = false := decide_eq_false (by omega)
            have g0' : decide (q' < s.size) = false := decide_eq_false (by omega)
            clear hq
            go_wp2_with (at_builtin; refine app_sg rfl _ _ rfl rfl (HP2.out.below ((Below.refl _ _).alloc (Nat.le_refl _) (.cells #[.slice a2 l2 c2] 61))) rfl (heap_alloc_new _ _) rfl (typed_below HV2.out ((Below.refl _ _).alloc (Nat.le_refl _) (.cells #[.slice a2 l2 c2] 61))) HT2.out (by omega) ?_; intro g' c' w4 hS4)
          case' inr =>
            have g0 : decide ((q' : Int) < (s.size : Int)) = true := decide_eq_true (by omega)
            have g0' : decide (q' < s.size) = true := decide_eq_true (by omega)
            have HRN := hidden (fun W => rep_no hd W)
            generalize (d.toNat : Int) = nd at *
            clear hd
            go_wp2_with fail
            refine (HRN.out _).mono ?_
            rintro e w3 ⟨rfl, rfl⟩
            go_wp2_with (at_builtin; refine app_sg rfl _ _ rfl rfl (HP2.out.below ((Below.refl _ _).alloc (Nat.le_refl _) (.cells #[.slice a2 l2 c2] 61))) rfl (heap_alloc_new _ _) rfl (typed_below HV2.out ((Below.refl _ _).alloc (Nat.le_refl _) (.cells #[.slice a2 l2 c2] 61))) HT2.out (by omega) ?_; intro g' c' w4 hS4)
          all_goals
            have HS4 := hidden hS4
            clear hS4
            rw [← HT1.out] at HS4
            go_wp2
            go_roundw
            case rel => exact ⟨j + 1, _, by omega, by rw [HE2.out], rfl, HS4.out⟩
            case measure => simp [Go.RowKit.intOf]; omega
    · obtain rfl : j = m := by omega
      have HA := hidden HP.out.all
      rw [List.take_of_length_le (by rw [HM.out]; exact Nat.le_refl _)] at HA HP
      have HC := hidden (rcat_calls wr _ _ HA.out (fun b hb => hb) (by have := HSZ.out; omega))
      have HB := hidden HP.out.frame
      have hE := HST.out
      rcases hE with hq | ⟨hp3, hx3⟩ | ⟨hp3, hx3⟩
      case' inl =>
        have g0 : decide (((pos j : Nat) : Int) < (s.size : Int)) = false := decide_eq_false (by omega)
        have g0' : decide (pos j < s.size) = false := decide_eq_false (by omega)
        clear hq
      case' inr.inl =>
        have hx3 : ((s[pos j]'hp3).toNat : Int) = 124 := hx3
        have g0 : decide (((pos j : Nat) : Int) < (s.size : Int)) = true := decide_eq_true (by omega)
        have g0' : decide (pos j < s.size) = true := decide_eq_true (by omega)
      case' inr.inr =>
        have hx3 : ((s[pos j]'hp3).toNat : Int) = 41 := hx3
        have g0 : decide (((pos j : Nat) : Int) < (s.size : Int)) = true := decide_eq_true (by omega)
        have g0' : decide (pos j < s.size) = true := decide_eq_true (by omega)
      all_goals
        go_wp2_with fail
        refine HC.out.mono ?_
        rintro e w2 ⟨v, rfl, hr, hb2⟩
        obtain ⟨a1, l1, c1, rfl⟩ := rowX_slice hr
        have HR := hidden (And.intro (hr.lower HB.out.size) (below_then HB.out HB.out.size hb2))
        clear hr hb2
        go_wp2
        go_ret3
        exact ⟨_, rfl, HR.out.1, HR.out.2⟩
end Go.Proofs.YtnjjbaodfjmiaaaGreat

/- The reference's reader: a text, an atom in brackets, and what it reads of the one text that the statements read. -/
namespace Go.Proofs.YtnjjbaodfjmiaaaGreat
open Go.RowKit Go.Lib Go.Joins

/-- the branches of a text: where each begins, what it has, where it ends -/
structure Bra where
  p : Nat
  n : Nat
  L : List Stp
structure BraOk (s : ByteArray) (w : World) (x : Bra) : Prop where
  lt : x.n ≤ s.size
  adv : x.p ≤ x.n
  call : ∀ W, Below w.heap.size w W → Calls Tryz.prog 88 #[.string s, .int .i64 (x.p : Int)] W (Rd W x.L x.n)
set_option maxHeartbeats 8000000 in
set_option maxRecDepth 100000 in
theorem rtext_calls (s : ByteArray) (w : World) (hs : s.size ≤ 1000) (x0 : Bra) (l : List Bra) (hl : l.length ≤ 100) (hx0 : BraOk s w x0) (pos : Nat → Nat) (hp0 : pos 0 = x0.n) (hok : ∀ j, j < l.length → ∃ x, l[j]? = some x ∧ BraOk s w x ∧ At s (pos j) 124 ∧ x.p = pos j + 1 ∧ pos (j + 1) = x.n) (hps : ∀ j, j ≤ l.length → pos j ≤ s.size) (hst : pos l.length = s.size ∨ ∃ c, At s (pos l.length) c ∧ c ≠ 124) (hsz : (altV ((x0 :: l).map Bra.L)).length ≤ 1000) :
    Calls Tryz.prog 61 #[.string s, .int .i64 (x0.p : Int)] w (Rd w (altV ((x0 :: l).map Bra.L)) (pos l.length)) := by
  have HX0 := hidden (hx0.call w (Below.refl _ _))
  have HOK := hidden hok
  have HPS := hidden hps
  have HST := hidden hst
  have HSZ := hidden hsz
  have HTK := hidden (fun j x (h : l[j]? = some x) => (show ((x0 :: l).take (j + 2)).map Bra.L = ((x0 :: l).take (j + 1)).map Bra.L ++ [x.L] ∧ (((x0 :: l).take (j + 1)).map Bra.L).length = j + 1 from by
    have hj : j < l.length := (List.getElem?_eq_some_iff.1 h).1
    rw [List.take_succ_cons, List.take_succ_cons, List.take_add_one, h]
    simp
    omega))
  have HTE := hidden (show ((x0 :: l).take (l.length + 1)).map Bra.L = (x0 :: l).map Bra.L from by rw [List.take_of_length_le (by simp)])
  have HT0 := hidden (show ((x0 :: l).take (0 + 1)).map Bra.L = [x0.L] from rfl)
  rw [← hp0] at HX0
  generalize (x0 :: l).map Bra.L = LL at *
  obtain ⟨m, hm⟩ : ∃ m, m = l.length := ⟨_, rfl⟩
  rw [← hm] at HOK HPS HST hl HTE ⊢
  generalize x0.p = p0 at *
  clear hok hps hst hsz hm hx0 hp0
  go_enter Tryz.func61, Tryz.ntmps61
  go_wp2_with fail
  refine HX0.out.mono ?_
  rintro e w1 ⟨v, rfl, hr, hb1⟩
  have HS1 := hidden (Sg.one hb1 hr.typed _ rfl)
  rw [← HT0.out] at HS1
  obtain ⟨a1, l1, c1, rfl⟩ := rowX_slice hr
  clear hr hb1
  go_wp2
  go_loopw [7, 8, 9, 10] (fun _ nx ok pv wr => ∃ (j : Nat) (parts : Value), j ≤ m ∧ nx = .int .i64 (pos j : Nat) ∧ ok = .bool true ∧ parts = pv ∧ Sg w (((x0 :: l).take (j + 1)).map Bra.L) parts wr) (fun _ nx _ _ _ => s.size + 1 - (Go.RowKit.intOf nx).toNat)
  case atStart => exact ⟨0, _, by omega, rfl, rfl, rfl, HS1.out⟩
  case round =>
    obtain ⟨j, parts, hj, rfl, rfl, rfl, hp⟩ := hrel
    have HP := hidden hp
    clear hp
    have hpj := HPS.out j hj
    by_cases hlt : j < m
    · obtain ⟨x, hx, hX, hat, e1, e2⟩ := HOK.out j hlt
      have HAT := hidden (hX.call wr HP.out.frame)
      have hadv := hX.adv
      obtain ⟨t1, t2⟩ := HTK.out j x hx
      have HT1 := hidden t1
      have HT2 := hidden t2
      have HE2 := hidden e2
      have hnl := hX.lt
      obtain ⟨hp3, hx3⟩ := hat
      have hx3 : ((s[pos j]'hp3).toNat : Int) = 124 := hx3
      have g0 : decide (((pos j : Nat) : Int) < (s.size : Int)) = true := decide_eq_true (by omega)
      have g0' : decide (pos j < s.size) = true := decide_eq_true (by omega)
      have hadd : IntKind.i64.wrap (((pos j : Nat) : Int) + 1) = (x.p : Int) := by rw [IntKind.wrap_i64]; omega
      have HLT := hidden (show pos j < pos (j + 1) from by omega)
      rw [← e2] at HAT hnl
      generalize x.p = xp at *
      generalize x.L = xL at *
      clear t1 t2 hX hx e1 e2 hadv
      go_wp2_with fail
      refine HAT.out.mono ?_
      rintro e w2 ⟨v, rfl, hr, hb2⟩
      have HP2 := hidden ((HP.out.below hb2).below ((Below.refl w2.heap.size w2).alloc (Nat.le_refl _) (.cells #[v] 61)))
      have HV2 := hidden (typed_below hr.typed ((Below.refl w2.heap.size w2).alloc (Nat.le_refl _) (.cells #[v] 61)))
      obtain ⟨a2, l2, c2, rfl⟩ := rowX_slice hr
      clear hr hb2
      go_wp2_with (at_builtin; refine app_sg rfl _ _ rfl rfl HP2.out rfl (heap_alloc_new _ _) rfl HV2.out HT2.out (by omega) ?_; intro g' c' w4 hS4)
      have HS4 := hidden hS4
      clear hS4
      rw [← HT1.out] at HS4
      have hlt2 := HLT.out
      go_wp2
      go_roundw
      case rel => exact ⟨j + 1, _, by omega, rfl, rfl, rfl, HS4.out⟩
      case measure => simp [Go.RowKit.intOf]; omega
    · obtain rfl : j = m := by omega
      rw [HTE.out] at HP
      have HA := hidden HP.out.all
      have HC := hidden (ralt_calls wr _ _ HA.out (fun b hb => hb) (by have := HSZ.out; omega))
      have HB := hidden HP.out.frame
      have hE := HST.out
      rcases hE with hq | ⟨c, ⟨hp3, hx3⟩, hc⟩
      case' inl =>
        have g0 : decide (((pos j : Nat) : Int) < (s.size : Int)) = false := decide_eq_false (by omega)
        have g0' : decide (pos j < s.size) = false := decide_eq_false (by omega)
        clear hq
      case' inr =>
        have g0 : decide (((pos j : Nat) : Int) < (s.size : Int)) = true := decide_eq_true (by omega)
        have g0' : decide (pos j < s.size) = true := decide_eq_true (by omega)
        have q1 : ((c.toNat : Int) == 124) = false := toNat_ne (d := 124) hc
        generalize (c.toNat : Int) = nc at *
        clear hc
      all_goals
        go_wp2_with fail
        refine HC.out.mono ?_
        rintro e w2 ⟨v, rfl, hr, hb2⟩
        obtain ⟨a1, l1, c1, rfl⟩ := rowX_slice hr
        have HR := hidden (And.intro (hr.lower HB.out.size) (below_then HB.out HB.out.size hb2))
        clear hr hb2
        go_wp2
        go_ret3
        exact ⟨_, rfl, HR.out.1, HR.out.2⟩
set_option maxHeartbeats 2000000 in
set_option maxRecDepth 100000 in
theorem ratom_in (s : ByteArray) (p n : Nat) (L : List Stp) (w : World) (h1 : At s p 40) (h2 : At s n 41) (hs : s.size ≤ 1000) (H : Calls Tryz.prog 61 #[.string s, .int .i64 ((p + 1 : Nat) : Int)] w (Rd w L n)) :
    Calls Tryz.prog 102 #[.string s, .int .i64 (p : Int)] w (Rd w L (n + 1)) := by
  have HT := hidden H
  obtain ⟨hp, hx⟩ := h1
  obtain ⟨hp2, hx2⟩ := h2
  have hx : ((s[p]'hp).toNat : Int) = 40 := hx
  have hx2 : ((s[n]'hp2).toNat : Int) = 41 := hx2
  have q0 : decide ((p : Int) < (s.size : Int)) = true := decide_eq_true (by omega)
  have q0' : decide (p < s.size) = true := decide_eq_true (by omega)
  have g0 : decide ((s.size : Int) ≤ (n : Int)) = false := decide_eq_false (by omega)
  have g0' : decide (s.size ≤ n) = false := decide_eq_false (by omega)
  have hadd : IntKind.i64.wrap ((p : Int) + 1) = ((p + 1 : Nat) : Int) := by rw [IntKind.wrap_i64]; omega
  have hadd2 : IntKind.i64.wrap ((n : Int) + 1) = ((n + 1 : Nat) : Int) := by rw [IntKind.wrap_i64]; omega
  clear H
  go_enter Tryz.func102, Tryz.ntmps102
  go_wp2_with fail
  refine HT.out.mono ?_
  rintro e w1 ⟨v, rfl, hr, hb1⟩
  obtain ⟨a1, l1, c1, rfl⟩ := rowX_slice hr
  go_wp2
  go_ret3
  exact ⟨_, rfl, hr, hb1⟩

/-! ### "(a|b)*c" -/
def kTxt : ByteArray := ⟨#[40, 97, 124, 98, 41, 42, 99]⟩
def bS (c : UInt8) : Stp := sStp (fOne c.toNat)
def kL : List Stp := [bS 97, bS 98, kStp 4, kStp 5, bS 99, kStp 3]
theorem k_plain (c : UInt8) (h : c = 97 ∨ c = 98 ∨ c = 99) : Plain c := by
  rcases h with rfl | rfl | rfl <;> exact ⟨by decide, by decide, by decide⟩
theorem k_at : At kTxt 0 40 ∧ At kTxt 1 97 ∧ At kTxt 2 124 ∧ At kTxt 3 98 ∧ At kTxt 4 41 ∧ At kTxt 5 42 ∧ At kTxt 6 99 :=
  ⟨⟨by decide, rfl⟩, ⟨by decide, rfl⟩, ⟨by decide, rfl⟩, ⟨by decide, rfl⟩, ⟨by decide, rfl⟩, ⟨by decide, rfl⟩, ⟨by decide, rfl⟩⟩
theorem k_size : kTxt.size = 7 := rfl
theorem k_branch1 (w : World) : Calls Tryz.prog 88 #[.string kTxt, .int .i64 ((1 : Nat) : Int)] w (Rd w [bS 97] 2) := by
  obtain ⟨a0, a1, a2, a3, a4, a5, a6⟩ := k_at
  refine rbranch_calls kTxt w (by decide) [⟨1, 2, 0, [bS 97]⟩] 1 (by decide) (fun j => j + 1) rfl ?_ ?_ (.inr (.inl a2)) (by decide)
  · intro j hj
    obtain rfl : j = 0 := by simpa using hj
    exact ⟨_, rfl, ⟨by decide, ⟨97, a1, by decide, by decide⟩, fun W _ => ratom_at kTxt 1 97 W a1 (by decide) (k_plain 97 (.inl rfl)), .inr ⟨124, a2, by decide⟩, by decide, by decide⟩, rfl, rfl⟩
  · intro j hj
    simp at hj
    rw [k_size]
    omega
theorem k_branch3 (w : World) : Calls Tryz.prog 88 #[.string kTxt, .int .i64 ((3 : Nat) : Int)] w (Rd w [bS 98] 4) := by
  obtain ⟨a0, a1, a2, a3, a4, a5, a6⟩ := k_at
  refine rbranch_calls kTxt w (by decide) [⟨3, 4, 0, [bS 98]⟩] 3 (by decide) (fun j => j + 3) rfl ?_ ?_ (.inr (.inr a4)) (by decide)
  · intro j hj
    obtain rfl : j = 0 := by simpa using hj
    exact ⟨_, rfl, ⟨by decide, ⟨98, a3, by decide, by decide⟩, fun W _ => ratom_at kTxt 3 98 W a3 (by decide) (k_plain 98 (.inr (.inl rfl))), .inr ⟨41, a4, by decide⟩, by decide, by decide⟩, rfl, rfl⟩
  · intro j hj
    simp at hj
    rw [k_size]
    omega
theorem k_text1 (w : World) : Calls Tryz.prog 61 #[.string kTxt, .int .i64 ((1 : Nat) : Int)] w (Rd w [bS 97, bS 98, kStp 4] 4) := by
  obtain ⟨a0, a1, a2, a3, a4, a5, a6⟩ := k_at
  refine rtext_calls kTxt w (by decide) ⟨1, 2, [bS 97]⟩ [⟨3, 4, [bS 98]⟩] (by decide) ⟨by decide, by decide, fun W _ => k_branch1 W⟩ (fun j => 2 * j + 2) rfl ?_ ?_ (.inr ⟨41, a4, by decide⟩) (by decide)
  · intro j hj
    obtain rfl : j = 0 := by simpa using hj
    exact ⟨_, rfl, ⟨by decide, by decide, fun W _ => k_branch3 W⟩, a2, rfl, rfl⟩
  · intro j hj
    simp at hj
    rw [k_size]
    omega
theorem k_atom0 (w : World) : Calls Tryz.prog 102 #[.string kTxt, .int .i64 ((0 : Nat) : Int)] w (Rd w [bS 97, bS 98, kStp 4] 5) := by
  obtain ⟨a0, a1, a2, a3, a4, a5, a6⟩ := k_at
  exact ratom_in kTxt 0 4 _ w a0 a4 (by decide) (k_text1 w)
theorem k_branch0 (w : World) : Calls Tryz.prog 88 #[.string kTxt, .int .i64 ((0 : Nat) : Int)] w (Rd w kL 7) := by
  obtain ⟨a0, a1, a2, a3, a4, a5, a6⟩ := k_at
  refine rbranch_calls kTxt w (by decide) [⟨0, 5, 42, [bS 97, bS 98, kStp 4]⟩, ⟨6, 7, 0, [bS 99]⟩] 0 (by decide) (fun j => if j = 0 then 0 else if j = 1 then 6 else 7) rfl ?_ ?_ (.inl rfl) (by decide)
  · intro j hj
    have hj' : j = 0 ∨ j = 1 := by simp at hj; omega
    rcases hj' with rfl | rfl
    · exact ⟨_, rfl, ⟨by decide, ⟨40, a0, by decide, by decide⟩, fun W _ => k_atom0 W, ⟨.inl rfl, a5, .inr ⟨99, a6, by decide⟩⟩, by decide, by decide⟩, rfl, rfl⟩
    · exact ⟨_, rfl, ⟨by decide, ⟨99, a6, by decide, by decide⟩, fun W _ => ratom_at kTxt 6 99 W a6 (by decide) (k_plain 99 (.inr (.inr rfl))), .inl rfl, by decide, by decide⟩, rfl, rfl⟩
  · intro j hj
    rw [k_size]
    split
    · omega
    · split <;> omega
theorem k_text0 (w : World) : Calls Tryz.prog 61 #[.string kTxt, .int .i64 ((0 : Nat) : Int)] w (Rd w kL 7) :=
  rtext_calls kTxt w (by decide) ⟨0, 7, kL⟩ [] (by decide) ⟨by decide, by decide, fun W _ => k_branch0 W⟩ (fun _ => 7) rfl (fun j hj => by simp at hj) (fun _ _ => by decide) (.inl rfl) (by decide)
set_option maxRecDepth 100000 in
theorem k_read (w : World) : Calls Tryz.prog 42 #[.string ⟨#[40, 97, 124, 98, 41, 42, 99]⟩] w fun e w' => (∃ v, e = .returned (.tuple #[v, .int .i64 7, .int .i64 0]) ∧ RowX w' w.heap.size v kL) ∧ Below w.heap.size w w' := by
  have HT := hidden (k_text0 w)
  go_enter Tryz.func42, Tryz.ntmps42
  go_wp2_with fail
  refine HT.out.mono ?_
  rintro e w1 ⟨v, rfl, hr, hb1⟩
  obtain ⟨a1, c1, rfl⟩ : ∃ a c, v = .slice a 6 c := by
    rcases ownsRow_forms hr with ⟨rfl, h0⟩ | ⟨g, cap, rfl⟩
    · cases h0
    · exact ⟨_, _, rfl⟩
  go_wp2
  go_ret3
  exact ⟨⟨_, rfl, hr⟩, hb1⟩
end Go.Proofs.YtnjjbaodfjmiaaaGreat

/- Contract of the reference's Sets. -/
namespace Go.Proofs.YtnjjbaodfjmiaaaGreat
open Go.RowKit Go.Lib Go.Joins
theorem RowS.lit (w : World) (b : Nat) (hb : b = w.heap.size) (cur : Array Value) (hc : cur = #[]) : RowS (w.alloc (.cells cur 103)) w.heap.size (.slice (some ⟨b, 0, none⟩) 0 0) [] := by
  subst hb hc
  exact World.ownsRow_lit (e := 103) (size := 4) w #[] 0 (Nat.le_refl _) (by decide) rfl
attribute [local irreducible] sets
set_option maxHeartbeats 4000000 in
set_option maxRecDepth 100000 in
theorem rsets_none {C : Nat → Prop} {v : Value} {L : List Stp} {w : World} (h : SlX C w v L) (hC : ∀ b, C b → b < w.heap.size) (hz : (measV L).2 ≠ 0) : Calls Tryz.prog 68 #[v] w (RetS w []) := by
  have hb0 := (Below.refl w.heap.size w).alloc (Nat.le_refl _) (.cells #[] 103)
  have HK := hidden (rcheck_slX (h.below (C' := fun b => b < w.heap.size) (w' := w.alloc (.cells #[] 103)) fun b hb => ⟨hC b hb, hb0.block b (hC b hb)⟩))
  have HN := hidden (RowS.lit w _ rfl #[] rfl)
  obtain ⟨a, cap, rfl, _⟩ := h
  generalize (measV L).2 = r at *
  have hne : (r != 0) = true := by simpa using hz
  have HB := hidden hb0
  clear hC hb0
  go_enter Tryz.func68, Tryz.ntmps68
  go_wp2_with fail
  refine HK.out.mono ?_
  rintro e w1 ⟨rfl, rfl⟩
  go_wp2
  go_ret
  exact ⟨_, rfl, HN.out, HB.out⟩
set_option maxHeartbeats 4000000 in
set_option maxRecDepth 100000 in
theorem rsets_calls {C : Nat → Prop} {v : Value} {L : List Stp} {w : World} (h : SlX C w v L) (hC : ∀ b, C b → b < w.heap.size) (hz : (measV L).2 = 0) (hl : L.length ≤ 512) : Calls Tryz.prog 68 #[v] w (RetS w (sets L)) := by
  have hb0 := (Below.refl w.heap.size w).alloc (Nat.le_refl _) (.cells #[] 103)
  have HK := hidden (rcheck_slX (h.below (C' := fun b => b < w.heap.size) (w' := w.alloc (.cells #[] 103)) fun b hb => ⟨hC b hb, hb0.block b (hC b hb)⟩))
  rw [hz] at HK
  have HN := hidden (RowS.lit w _ rfl #[] rfl)
  have HB0 := hidden hb0
  have hpos := expr_ne (meas_expr hz).2
  obtain ⟨a, cap, rfl, hcap, hmax, _, hS⟩ := h
  obtain ⟨b, off, rfl, hCb, hc⟩ := hS.2 hpos
  have hbl := hC b hCb
  have HC := hidden (fun W2 (hW2 : Below w.heap.size w W2) k (hk : k < L.length) => (hc k hk).kept (w' := W2) (hW2.block b hbl))
  have HT := hidden (fun k (h : k < L.length) => sets_take h)
  have HLN := hidden (fun k => sets_len L k)
  have HE := hidden (show sets (L.take L.length) = sets L by rw [List.take_length])
  have H0 := hidden (show sets (L.take 0) = [] by unfold sets; rfl)
  obtain ⟨n, hn⟩ : ∃ n, n = L.length := ⟨_, rfl⟩
  rw [← hn] at HC HT HE hcap hl hpos HK ⊢
  unfold maxLen at hmax
  clear hC hS hc hn hz hb0
  go_enter Tryz.func68, Tryz.ntmps68
  go_wp2_with fail
  refine HK.out.mono ?_
  rintro e w1 ⟨rfl, rfl⟩
  go_wp2
  go_loopw [3, 4] (fun v i wr => ∃ (k : Nat) (o : Value), k ≤ n ∧ o = v ∧ i = .int .i64 k ∧ RowS wr w.heap.size o (sets (L.take k)) ∧ Below w.heap.size w wr) (fun _ i _ => n - (Go.RowKit.intOf i).toNat)
  case atStart => exact ⟨0, _, by omega, rfl, rfl, by rw [H0.out]; exact HN.out, HB0.out⟩
  case round =>
    obtain ⟨k, o, hk, rfl, rfl, hG, hb⟩ := hrel
    have HG := hidden hG
    have HB := hidden hb
    have hsz := hb.size
    by_cases hlt : k < n
    · obtain ⟨c0, c1, c2, c3, c4⟩ := HC.out wr hb k hlt
      have HTK := hidden (HT.out k hlt)
      have hln := HLN.out k
      generalize hst : L.getD k default = s at *
      obtain ⟨sk, sa, sb, sc, sd⟩ := s
      dsimp only at *
      have hbr : b < wr.heap.size := by omega
      obtain ⟨m, hm⟩ : ∃ m, m = (sets (L.take k)).length := ⟨_, rfl⟩
      rw [← hm] at hln
      have HM := hidden hm.symm
      clear hG hb hst hm
      by_cases h1 : sk = 1
      · subst h1
        have HR := hidden (show sets (L.take (k + 1)) = sets (L.take k) ++ [⟨1, sa, sb, sc, sd⟩] by rw [HTK.out]; rfl)
        have HA := hidden (HG.out.kept ((Below.refl wr.heap.size wr).alloc (Nat.le_refl _) (.cells #[.int .u64 sa, .int .u64 sb, .int .u64 sc, .int .u64 sd] 103)))
        have HBA := hidden (HB.out.alloc hsz (.cells #[.int .u64 sa, .int .u64 sb, .int .u64 sc, .int .u64 sd] 103))
        clear HTK
        go_wp2_with (at_builtin; refine app_s (z := ⟨1, sa, sb, sc, sd⟩) rfl _ _ rfl rfl HA.out rfl (heap_alloc_new wr _) HM.out (by omega) (by simp; omega) ?_; intro g' c' w3 hr3 hg3 hb3; have HR3 := hidden hr3; have HB3 := hidden (HBA.out.trans hb3); clear hr3 hg3 hb3)
        go_roundw
        case rel => exact ⟨k + 1, _, by omega, rfl, by go_num, by rw [HR.out]; exact HR3.out, HB3.out⟩
        case measure => simp [Go.RowKit.intOf]; omega
      · have HR := hidden (show sets (L.take (k + 1)) = sets (L.take k) by rw [HTK.out, if_neg h1])
        have hq : (sk == 1) = false := by simpa using h1
        clear HTK
        go_wp2
        go_roundw
        case rel => exact ⟨k + 1, _, by omega, rfl, by go_num, by rw [HR.out]; exact HG.out, HB.out⟩
        case measure => simp [Go.RowKit.intOf]; omega
    · have e : k = n := by omega
      subst e
      clear hG hb
      go_wp2
      go_ret
      rw [HE.out] at HG
      exact ⟨_, rfl, HG.out, HB.out⟩
end Go.Proofs.YtnjjbaodfjmiaaaGreat

/- Contracts of the reference's follows, First, Last, Free and Follow. -/
namespace Go.Proofs.YtnjjbaodfjmiaaaGreat
open Go.RowKit Go.Lib Go.Joins
theorem sets_flat : ∀ (r : List Ex), (∀ e ∈ r, e.ok) → (sets (r.flatMap ops)).length = plcs r
  | [], _ => rfl
  | e :: r, h => by
    rw [List.flatMap_cons, sets_append, List.length_append, sets_ops e (h e (by simp)), sets_flat r fun x hx => h x (by simp [hx])]
    rfl
theorem mem_spI (p : Nat) (X : List Nat) : ((p : Int) ∈ spI X) ↔ p ∈ X := by
  unfold spI
  rw [List.mem_map]
  exact ⟨fun ⟨a, h, e⟩ => by rw [show p = a by omega]; exact h, fun h => ⟨p, h, rfl⟩⟩
/-- what one step adds, as the reference finds it -/
inductive Fst (b off cap : Nat) (L : List Stp) (k : Nat) (kd : Int) : List (Prt × Prt) → Prop
  | skip (h : kd ≠ 3 ∧ kd ≠ 5 ∧ kd ≠ 6) : Fst b off cap L k kd []
  | rep (h : kd = 5 ∨ kd = 6) (j : Nat) (hj : j + 1 = k) (X Y : List Nat) (x : Prt) (hX : TellZ b off cap L true j (spI X)) (hY : TellZ b off cap L false j (spI Y)) (mX : ∀ p : Nat, ((p : Int) ∈ spI X) ↔ x.last p = true) (mY : ∀ p : Nat, ((p : Int) ∈ spI Y) ↔ x.first p = true) : Fst b off cap L k kd [(x, x)]
  | cat (h : kd = 3) (j y l : Nat) (hj : j + 1 = k) (hy : l + 1 = y) (hy1 : y ≤ 1000) (hB : Begins b off cap L j y) (X Y : List Nat) (x z : Prt) (hX : TellZ b off cap L true l (spI X)) (hY : TellZ b off cap L false j (spI Y)) (mX : ∀ p : Nat, ((p : Int) ∈ spI X) ↔ x.last p = true) (mY : ∀ p : Nat, ((p : Int) ∈ spI Y) ↔ z.first p = true) : Fst b off cap L k kd [(x, z)]
theorem fst_of {b off cap : Nat} {L : List Stp} {k : Nat} (hk : k < L.length) (hE : Expr L) (hwd : ∀ s ∈ L, s.wide) (hl : L.length ≤ 512) (hc : L.length ≤ cap) (hm : cap ≤ maxLen) : ∃ new, fMet (trees L (k + 1)) 0 = fMet (trees L k) 0 ++ new ∧ Fst b off cap L k (L.getD k default).k new := by
  have hF := forms_at hE.1 hwd k (by omega)
  obtain ⟨hN, _⟩ := next_of hk hE.1 hwd hF
  have hsp : L = L.take k ++ L.drop k := (List.take_append_drop k L).symm
  have hlen : (L.take k).length = k := by rw [List.length_take]; omega
  generalize hT : trees L k = T at *
  generalize hT' : trees L (k + 1) = T' at *
  generalize hs : L.getD k default = s at *
  have mL : ∀ (e : Ex) (n p : Nat), ((p : Int) ∈ spI (endE true e n)) ↔ gL e n p = true := fun e n p => by rw [mem_spI, endE_mem]; rfl
  have mF : ∀ (e : Ex) (n p : Nat), ((p : Int) ∈ spI (endE false e n)) ↔ gF e n p = true := fun e n p => by rw [mem_spI, endE_mem]; rfl
  cases hN with
  | set _ h e => exact ⟨[], by rw [fMet_one]; simp [met], .skip (by omega)⟩
  | emp _ e => exact ⟨[], by rw [fMet_one]; simp [met], .skip (by rw [e]; simp [kStp])⟩
  | alt r a c e =>
    refine ⟨[], ?_, .skip (by rw [e]; simp [kStp])⟩
    rw [fMet_one, fMet_two]
    simp [met]
  | un r a e h =>
    obtain ⟨h1, h2⟩ := hF
    rw [List.flatMap_append, List.flatMap_cons, List.flatMap_nil, List.append_nil] at h1
    have ha := h2 a (by simp)
    have hp := ops_pos a
    have hsr := sets_flat r fun x hx => h2 x (by simp [hx])
    have hL : L = r.flatMap ops ++ ops a ++ L.drop k := by rw [h1]; exact hsp
    have hk2 : (r.flatMap ops).length + (ops a).length = k := by
      have := congrArg List.length h1
      rw [List.length_append, hlen] at this
      omega
    have hi : k - 1 + 1 = (r.flatMap ops).length + (ops a).length := by omega
    by_cases h7 : s.k = 7
    · refine ⟨[], ?_, .skip (by omega)⟩
      rw [fMet_one, fMet_one]
      simp [met, h7]
    · refine ⟨[(prtE a (plcs r), prtE a (plcs r))], ?_, .rep (by omega) (k - 1) (by omega) (endE true a (plcs r)) (endE false a (plcs r)) _ ?_ ?_ (mL _ _) (mF _ _)⟩
      · rw [fMet_one, fMet_one]
        simp [met, h7]
      · have := rends (b := b) (off := off) (cap := cap) true hl hc hm a ha _ _ _ hL hi
        rwa [hsr] at this
      · have := rends (b := b) (off := off) (cap := cap) false hl hc hm a ha _ _ _ hL hi
        rwa [hsr] at this
  | cat r a c e =>
    obtain ⟨h1, h2⟩ := hF
    rw [List.flatMap_append, List.flatMap_cons, List.flatMap_cons, List.flatMap_nil, List.append_nil] at h1
    have ha := h2 a (by simp)
    have hcc := h2 c (by simp)
    have hp := ops_pos a
    have hp2 := ops_pos c
    have hsr := sets_flat r fun x hx => h2 x (by simp [hx])
    have hL1 : L = r.flatMap ops ++ ops a ++ (ops c ++ L.drop k) := by
      conv => lhs; rw [hsp, ← h1]
      simp
    have hL2 : L = (r.flatMap ops ++ ops a) ++ ops c ++ L.drop k := by
      conv => lhs; rw [hsp, ← h1]
      simp
    have hk2 : (r.flatMap ops).length + ((ops a).length + (ops c).length) = k := by
      have := congrArg List.length h1
      rw [List.length_append, List.length_append, hlen] at this
      omega
    have hs2 : (sets (r.flatMap ops ++ ops a)).length = plcs r + plc a := by rw [sets_append, List.length_append, hsr, sets_ops a ha]
    refine ⟨[(prtE a (plcs r), prtE c (plcs r + plc a))], ?_, .cat (by rw [e]; rfl) (k - 1) (r.flatMap ops ++ ops a).length ((r.flatMap ops).length + (ops a).length - 1) (by omega) (by simp only [List.length_append]; omega) (by simp only [List.length_append]; omega) (begins hcc (by omega) hL2 (by simp only [List.length_append]; omega)) (endE true a (plcs r)) (endE false c (plcs r + plc a)) _ _ ?_ ?_ (mL _ _) (mF _ _)⟩
    · rw [fMet_one, fMet_two]
      simp [met]
    · have := rends (b := b) (off := off) (cap := cap) true hl hc hm a ha _ _ ((r.flatMap ops).length + (ops a).length - 1) hL1 (by omega)
      rwa [hsr] at this
    · have := rends (b := b) (off := off) (cap := cap) false hl hc hm c hcc _ _ (k - 1) hL2 (by simp only [List.length_append]; omega)
      rwa [hs2] at this
def pq (p q : Nat) (x : Prt × Prt) : Bool := x.1.last p && x.2.first q
set_option maxHeartbeats 8000000 in
set_option maxRecDepth 100000 in
theorem rfollows_calls {b off cap : Nat} {L : List Stp} {w : World} (p q : Nat) (h : Lay b off L w) (hz : (measV L).2 = 0) (hwd : ∀ s ∈ L, s.wide) (hc : L.length ≤ cap) (hm : cap ≤ maxLen) :
    Calls Tryz.prog 95 #[.slice (some ⟨b, off, none⟩) L.length cap, .int .i64 p, .int .i64 q] w fun e w' => e = .returned (.bool ((met (treeE L) 0).any (pq p q))) ∧ Below w.heap.size w w' := by
  obtain ⟨h512, hE⟩ := meas_expr hz
  obtain ⟨hone, hok, hops⟩ := tree_of hE hwd
  obtain ⟨D, hD⟩ : ∃ D : Nat → Bool, D = fun k => (fMet (trees L k) 0).any (pq p q) := ⟨_, rfl⟩
  have HST := hidden (fun k (hk : k < L.length) => (show ∃ new, D (k + 1) = (D k || new.any (pq p q)) ∧ Fst b off cap L k (L.getD k default).k new from by
    obtain ⟨new, h1, h2⟩ := fst_of (b := b) (off := off) (cap := cap) hk hE hwd h512 hc hm
    exact ⟨new, by rw [hD]; simp only [h1, List.any_append], h2⟩))
  have HZ := hidden (show D 0 = false by rw [hD]; rfl)
  have HE := hidden (show D L.length = (met (treeE L) 0).any (pq p q) by rw [hD]; simp only [hone]; simp [fMet])
  have HUP := hidden (fun k (hk : k ≤ L.length) => (show D k = true → D L.length = true from by
    intro ht
    have key : ∀ d, k + d ≤ L.length → D (k + d) = true := by
      intro d
      induction d with
      | zero => intro _; exact ht
      | succ d ih =>
        intro hd
        obtain ⟨new, h1, _⟩ := HST.out (k + d) (by omega)
        rw [← Nat.add_assoc, h1, ih (by omega)]
        rfl
    have := key (L.length - k) (by omega)
    rwa [show k + (L.length - k) = L.length by omega] at this))
  have HLY := hidden h
  have HKD := hidden (fun w' (hw : Below w.heap.size w w') k (hk : k < L.length) => (h.below hw).kind hk rfl)
  generalize hR : (met (treeE L) 0).any (pq p q) = R at *
  obtain ⟨n, hn⟩ : ∃ n, n = L.length := ⟨_, rfl⟩
  rw [← hn] at HST HE HUP HKD h512 ⊢
  have HNN := hidden hn.symm
  clear h hE hone hok hops hD hR hn hz hwd hc hm
  go_enter Tryz.func95, Tryz.ntmps95
  go_wp2
  go_loopw [7] (fun i wr => ∃ k : Nat, k ≤ n ∧ i = .int .i64 k ∧ Hid (D k = false) ∧ Below w.heap.size w wr) (fun i _ => n - (Go.RowKit.intOf i).toNat)
  case atStart => exact ⟨0, by omega, rfl, HZ, Below.refl _ _⟩
  case round =>
    obtain ⟨k, hk, rfl, hdk, hb⟩ := hrel
    have HB := hidden hb
    clear hb
    by_cases hlt : k < n
    · have c0 := HKD.out wr HB.out k hlt
      obtain ⟨new, hnew, hfst⟩ := HST.out k hlt
      have hsub : 1 ≤ k → IntKind.i64.wrap ((k : Int) - 1) = ((k - 1 : Nat) : Int) := fun h => by rw [IntKind.wrap_i64]; omega
      have hlt' := hlt
      generalize (L.getD k default).k = kd at *
      rw [hdk.out, Bool.false_or] at hnew
      have HNEW := hidden hnew
      clear hnew
      rcases hfst with ⟨h3, h5, h6⟩ | ⟨hkd, j, hj, X, Y, x, hX, hY, mX, mY⟩ | ⟨hkd, j, y, l, hj, hy, hy1, hB, X, Y, x, z, hX, hY, mX, mY⟩
      · have q3 : (kd == 3) = false := by simpa using h3
        have q5 : (kd == 5) = false := by simpa using h5
        have q6 : (kd == 6) = false := by simpa using h6
        have HD1 := hidden (show D (k + 1) = false by rw [HNEW.out]; rfl)
        clear hsub h3 h5 h6 hdk
        go_wp2
        go_roundw
        case rel => exact ⟨k + 1, by omega, by go_num, HD1, HB.out⟩
        case measure => simp [Go.RowKit.intOf]; omega
      · have hs1 := hsub (by omega)
        have hjk : k - 1 = j := by omega
        rw [hjk] at hs1
        have HTX := hidden hX
        have HTY := hidden hY
        have HX := hidden (fun v : Bool => fun (h : x.last p = v) => (show decide ((p : Int) ∈ spI X) = v from by cases v; exact decide_eq_false (by rw [mX, h]; decide); exact decide_eq_true (by rw [mX, h])))
        have HY := hidden (fun v : Bool => fun (h : x.first q = v) => (show decide ((q : Int) ∈ spI Y) = v from by cases v; exact decide_eq_false (by rw [mY, h]; decide); exact decide_eq_true (by rw [mY, h])))
        have HND := hidden (show D (k + 1) = (x.last p && x.first q) by rw [HNEW.out]; simp [pq])
        clear hsub hdk hX hY mX mY HNEW hj hjk
        generalize spI X = SX at *
        generalize spI Y = SY at *
        generalize x.last p = u at *
        generalize x.first q = v at *
        rcases hkd with rfl | rfl
        · cases u
          case false =>
            go_wp2_with fail
            rw [← HNN.out]
            refine (HTX.out _ (HLY.out.below HB.out)).mono ?_
            rintro e w1X ⟨vX, rfl, hrX, hbX⟩
            have HBX := hidden (below_after HB.out hbX)
            have HHX := hidden (has10_calls (B := w1X.heap.size) w1X vX _ (p : Int) hrX.reads)
            obtain ⟨aX, cX, rfl⟩ := hrX.form
            rw [HNN.out]
            clear hrX hbX
            go_wp2_with fail
            refine HHX.out.mono ?_
            rintro e w2X ⟨rfl, hbX⟩
            have HCX := hidden (below_after HBX.out hbX)
            rw [HX.out false rfl]
            clear hbX
            have HD1 := hidden (show D (k + 1) = false by rw [HND.out]; rfl)
            go_wp2
            go_roundw
            case rel => exact ⟨k + 1, by omega, by go_num, HD1, HCX.out⟩
            case measure => simp [Go.RowKit.intOf]; omega
          case true =>
            cases v
            case false =>
              go_wp2_with fail
              rw [← HNN.out]
              refine (HTX.out _ (HLY.out.below HB.out)).mono ?_
              rintro e w1X ⟨vX, rfl, hrX, hbX⟩
              have HBX := hidden (below_after HB.out hbX)
              have HHX := hidden (has10_calls (B := w1X.heap.size) w1X vX _ (p : Int) hrX.reads)
              obtain ⟨aX, cX, rfl⟩ := hrX.form
              rw [HNN.out]
              clear hrX hbX
              go_wp2_with fail
              refine HHX.out.mono ?_
              rintro e w2X ⟨rfl, hbX⟩
              have HCX := hidden (below_after HBX.out hbX)
              rw [HX.out true rfl]
              clear hbX
              go_wp2_with fail
              rw [← HNN.out]
              refine (HTY.out _ (HLY.out.below HCX.out)).mono ?_
              rintro e w1Y ⟨vY, rfl, hrY, hbY⟩
              have HBY := hidden (below_after HCX.out hbY)
              have HHY := hidden (has10_calls (B := w1Y.heap.size) w1Y vY _ (q : Int) hrY.reads)
              obtain ⟨aY, cY, rfl⟩ := hrY.form
              rw [HNN.out]
              clear hrY hbY
              go_wp2_with fail
              refine HHY.out.mono ?_
              rintro e w2Y ⟨rfl, hbY⟩
              have HCY := hidden (below_after HBY.out hbY)
              rw [HY.out false rfl]
              clear hbY
              have HD1 := hidden (show D (k + 1) = false by rw [HND.out]; rfl)
              go_wp2
              go_roundw
              case rel => exact ⟨k + 1, by omega, by go_num, HD1, HCY.out⟩
              case measure => simp [Go.RowKit.intOf]; omega
            case true =>
              go_wp2_with fail
              rw [← HNN.out]
              refine (HTX.out _ (HLY.out.below HB.out)).mono ?_
              rintro e w1X ⟨vX, rfl, hrX, hbX⟩
              have HBX := hidden (below_after HB.out hbX)
              have HHX := hidden (has10_calls (B := w1X.heap.size) w1X vX _ (p : Int) hrX.reads)
              obtain ⟨aX, cX, rfl⟩ := hrX.form
              rw [HNN.out]
              clear hrX hbX
              go_wp2_with fail
              refine HHX.out.mono ?_
              rintro e w2X ⟨rfl, hbX⟩
              have HCX := hidden (below_after HBX.out hbX)
              rw [HX.out true rfl]
              clear hbX
              go_wp2_with fail
              rw [← HNN.out]
              refine (HTY.out _ (HLY.out.below HCX.out)).mono ?_
              rintro e w1Y ⟨vY, rfl, hrY, hbY⟩
              have HBY := hidden (below_after HCX.out hbY)
              have HHY := hidden (has10_calls (B := w1Y.heap.size) w1Y vY _ (q : Int) hrY.reads)
              obtain ⟨aY, cY, rfl⟩ := hrY.form
              rw [HNN.out]
              clear hrY hbY
              go_wp2_with fail
              refine HHY.out.mono ?_
              rintro e w2Y ⟨rfl, hbY⟩
              have HCY := hidden (below_after HBY.out hbY)
              rw [HY.out true rfl]
              clear hbY
              have HR := hidden (HE.out.symm.trans (HUP.out (k + 1) (by omega) (by rw [HND.out]; rfl)))
              go_wp2
              go_ret
              exact ⟨ret_b HR.out.symm, HCY.out⟩
        · cases u
          case false =>
            go_wp2_with fail
            rw [← HNN.out]
            refine (HTX.out _ (HLY.out.below HB.out)).mono ?_
            rintro e w1X ⟨vX, rfl, hrX, hbX⟩
            have HBX := hidden (below_after HB.out hbX)
            have HHX := hidden (has10_calls (B := w1X.heap.size) w1X vX _ (p : Int) hrX.reads)
            obtain ⟨aX, cX, rfl⟩ := hrX.form
            rw [HNN.out]
            clear hrX hbX
            go_wp2_with fail
            refine HHX.out.mono ?_
            rintro e w2X ⟨rfl, hbX⟩
            have HCX := hidden (below_after HBX.out hbX)
            rw [HX.out false rfl]
            clear hbX
            have HD1 := hidden (show D (k + 1) = false by rw [HND.out]; rfl)
            go_wp2
            go_roundw
            case rel => exact ⟨k + 1, by omega, by go_num, HD1, HCX.out⟩
            case measure => simp [Go.RowKit.intOf]; omega
          case true =>
            cases v
            case false =>
              go_wp2_with fail
              rw [← HNN.out]
              refine (HTX.out _ (HLY.out.below HB.out)).mono ?_
              rintro e w1X ⟨vX, rfl, hrX, hbX⟩
              have HBX := hidden (below_after HB.out hbX)
              have HHX := hidden (has10_calls (B := w1X.heap.size) w1X vX _ (p : Int) hrX.reads)
              obtain ⟨aX, cX, rfl⟩ := hrX.form
              rw [HNN.out]
              clear hrX hbX
              go_wp2_with fail
              refine HHX.out.mono ?_
              rintro e w2X ⟨rfl, hbX⟩
              have HCX := hidden (below_after HBX.out hbX)
              rw [HX.out true rfl]
              clear hbX
              go_wp2_with fail
              rw [← HNN.out]
              refine (HTY.out _ (HLY.out.below HCX.out)).mono ?_
              rintro e w1Y ⟨vY, rfl, hrY, hbY⟩
              have HBY := hidden (below_after HCX.out hbY)
              have HHY := hidden (has10_calls (B := w1Y.heap.size) w1Y vY _ (q : Int) hrY.reads)
              obtain ⟨aY, cY, rfl⟩ := hrY.form
              rw [HNN.out]
              clear hrY hbY
              go_wp2_with fail
              refine HHY.out.mono ?_
              rintro e w2Y ⟨rfl, hbY⟩
              have HCY := hidden (below_after HBY.out hbY)
              rw [HY.out false rfl]
              clear hbY
              have HD1 := hidden (show D (k + 1) = false by rw [HND.out]; rfl)
              go_wp2
              go_roundw
              case rel => exact ⟨k + 1, by omega, by go_num, HD1, HCY.out⟩
              case measure => simp [Go.RowKit.intOf]; omega
            case true =>
              go_wp2_with fail
              rw [← HNN.out]
              refine (HTX.out _ (HLY.out.below HB.out)).mono ?_
              rintro e w1X ⟨vX, rfl, hrX, hbX⟩
              have HBX := hidden (below_after HB.out hbX)
              have HHX := hidden (has10_calls (B := w1X.heap.size) w1X vX _ (p : Int) hrX.reads)
              obtain ⟨aX, cX, rfl⟩ := hrX.form
              rw [HNN.out]
              clear hrX hbX
              go_wp2_with fail
              refine HHX.out.mono ?_
              rintro e w2X ⟨rfl, hbX⟩
              have HCX := hidden (below_after HBX.out hbX)
              rw [HX.out true rfl]
              clear hbX
              go_wp2_with fail
              rw [← HNN.out]
              refine (HTY.out _ (HLY.out.below HCX.out)).mono ?_
              rintro e w1Y ⟨vY, rfl, hrY, hbY⟩
              have HBY := hidden (below_after HCX.out hbY)
              have HHY := hidden (has10_calls (B := w1Y.heap.size) w1Y vY _ (q : Int) hrY.reads)
              obtain ⟨aY, cY, rfl⟩ := hrY.form
              rw [HNN.out]
              clear hrY hbY
              go_wp2_with fail
              refine HHY.out.mono ?_
              rintro e w2Y ⟨rfl, hbY⟩
              have HCY := hidden (below_after HBY.out hbY)
              rw [HY.out true rfl]
              clear hbY
              have HR := hidden (HE.out.symm.trans (HUP.out (k + 1) (by omega) (by rw [HND.out]; rfl)))
              go_wp2
              go_ret
              exact ⟨ret_b HR.out.symm, HCY.out⟩
      · have hs1 := hsub (by omega)
        have hjk : k - 1 = j := by omega
        rw [hjk] at hs1
        have HTX := hidden hX
        have HTY := hidden hY
        have HBB := hidden hB
        have hs2 : IntKind.i64.wrap ((y : Int) - 1) = l := by rw [IntKind.wrap_i64]; omega
        subst hkd
        have HX := hidden (fun v : Bool => fun (h : x.last p = v) => (show decide ((p : Int) ∈ spI X) = v from by cases v; exact decide_eq_false (by rw [mX, h]; decide); exact decide_eq_true (by rw [mX, h])))
        have HY := hidden (fun v : Bool => fun (h : z.first q = v) => (show decide ((q : Int) ∈ spI Y) = v from by cases v; exact decide_eq_false (by rw [mY, h]; decide); exact decide_eq_true (by rw [mY, h])))
        have HND := hidden (show D (k + 1) = (x.last p && z.first q) by rw [HNEW.out]; simp [pq])
        clear hsub hdk hX hY mX mY HNEW hj hjk hB hy
        generalize spI X = SX at *
        generalize spI Y = SY at *
        generalize x.last p = u at *
        generalize z.first q = v at *
        cases u
        case false =>
          go_wp2_with fail
          rw [← HNN.out]
          refine (HBB.out _ (HLY.out.below HB.out)).mono ?_
          rintro e w7 ⟨rfl, rfl⟩
          rw [HNN.out]
          go_wp2_with fail
          rw [← HNN.out]
          refine (HTX.out _ (HLY.out.below HB.out)).mono ?_
          rintro e w1X ⟨vX, rfl, hrX, hbX⟩
          have HBX := hidden (below_after HB.out hbX)
          have HHX := hidden (has10_calls (B := w1X.heap.size) w1X vX _ (p : Int) hrX.reads)
          obtain ⟨aX, cX, rfl⟩ := hrX.form
          rw [HNN.out]
          clear hrX hbX
          go_wp2_with fail
          refine HHX.out.mono ?_
          rintro e w2X ⟨rfl, hbX⟩
          have HCX := hidden (below_after HBX.out hbX)
          rw [HX.out false rfl]
          clear hbX
          have HD1 := hidden (show D (k + 1) = false by rw [HND.out]; rfl)
          go_wp2
          go_roundw
          case rel => exact ⟨k + 1, by omega, by go_num, HD1, HCX.out⟩
          case measure => simp [Go.RowKit.intOf]; omega
        case true =>
          cases v
          case false =>
            go_wp2_with fail
            rw [← HNN.out]
            refine (HBB.out _ (HLY.out.below HB.out)).mono ?_
            rintro e w7 ⟨rfl, rfl⟩
            rw [HNN.out]
            go_wp2_with fail
            rw [← HNN.out]
            refine (HTX.out _ (HLY.out.below HB.out)).mono ?_
            rintro e w1X ⟨vX, rfl, hrX, hbX⟩
            have HBX := hidden (below_after HB.out hbX)
            have HHX := hidden (has10_calls (B := w1X.heap.size) w1X vX _ (p : Int) hrX.reads)
            obtain ⟨aX, cX, rfl⟩ := hrX.form
            rw [HNN.out]
            clear hrX hbX
            go_wp2_with fail
            refine HHX.out.mono ?_
            rintro e w2X ⟨rfl, hbX⟩
            have HCX := hidden (below_after HBX.out hbX)
            rw [HX.out true rfl]
            clear hbX
            go_wp2_with fail
            rw [← HNN.out]
            refine (HTY.out _ (HLY.out.below HCX.out)).mono ?_
            rintro e w1Y ⟨vY, rfl, hrY, hbY⟩
            have HBY := hidden (below_after HCX.out hbY)
            have HHY := hidden (has10_calls (B := w1Y.heap.size) w1Y vY _ (q : Int) hrY.reads)
            obtain ⟨aY, cY, rfl⟩ := hrY.form
            rw [HNN.out]
            clear hrY hbY
            go_wp2_with fail
            refine HHY.out.mono ?_
            rintro e w2Y ⟨rfl, hbY⟩
            have HCY := hidden (below_after HBY.out hbY)
            rw [HY.out false rfl]
            clear hbY
            have HD1 := hidden (show D (k + 1) = false by rw [HND.out]; rfl)
            go_wp2
            go_roundw
            case rel => exact ⟨k + 1, by omega, by go_num, HD1, HCY.out⟩
            case measure => simp [Go.RowKit.intOf]; omega
          case true =>
            go_wp2_with fail
            rw [← HNN.out]
            refine (HBB.out _ (HLY.out.below HB.out)).mono ?_
            rintro e w7 ⟨rfl, rfl⟩
            rw [HNN.out]
            go_wp2_with fail
            rw [← HNN.out]
            refine (HTX.out _ (HLY.out.below HB.out)).mono ?_
            rintro e w1X ⟨vX, rfl, hrX, hbX⟩
            have HBX := hidden (below_after HB.out hbX)
            have HHX := hidden (has10_calls (B := w1X.heap.size) w1X vX _ (p : Int) hrX.reads)
            obtain ⟨aX, cX, rfl⟩ := hrX.form
            rw [HNN.out]
            clear hrX hbX
            go_wp2_with fail
            refine HHX.out.mono ?_
            rintro e w2X ⟨rfl, hbX⟩
            have HCX := hidden (below_after HBX.out hbX)
            rw [HX.out true rfl]
            clear hbX
            go_wp2_with fail
            rw [← HNN.out]
            refine (HTY.out _ (HLY.out.below HCX.out)).mono ?_
            rintro e w1Y ⟨vY, rfl, hrY, hbY⟩
            have HBY := hidden (below_after HCX.out hbY)
            have HHY := hidden (has10_calls (B := w1Y.heap.size) w1Y vY _ (q : Int) hrY.reads)
            obtain ⟨aY, cY, rfl⟩ := hrY.form
            rw [HNN.out]
            clear hrY hbY
            go_wp2_with fail
            refine HHY.out.mono ?_
            rintro e w2Y ⟨rfl, hbY⟩
            have HCY := hidden (below_after HBY.out hbY)
            rw [HY.out true rfl]
            clear hbY
            have HR := hidden (HE.out.symm.trans (HUP.out (k + 1) (by omega) (by rw [HND.out]; rfl)))
            go_wp2
            go_ret
            exact ⟨ret_b HR.out.symm, HCY.out⟩
    · obtain rfl : k = n := by omega
      have HR := hidden (HE.out.symm.trans hdk.out)
      clear hdk
      go_wp2
      go_ret
      exact ⟨ret_b HR.out.symm, HB.out⟩
end Go.Proofs.YtnjjbaodfjmiaaaGreat
