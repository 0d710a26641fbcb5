/- 'ManyParts' answers true for every two lists of numbers: what two have in common and what the first has alone are together the first, all of both is as long as both less what they have in common, and which is first makes no difference. Conditions: none. -/
import Derived.Test.YtbnohmbdfcapkaaMaKn
namespace Go.Proofs.Ytbnohmbdfcapkaa.lawManyParts
open Go.ChangeShapes Go.WideShapes Go.ChangeAt Go.RowKit
open Go.ChangeMaps (open_string shut_string)

theorem same_self (l : List Int) : decide (l = l) = true := by simp
set_option maxHeartbeats 16000000 in
set_option maxRecDepth 100000 in
theorem walk (a0 : Option Addr) (l0 c0 : Nat) (xs : List Int) (a1 : Option Addr) (l1 c1 : Nat) (ys : List Int) (w : World)
    (hA : RdZ w.heap.size w (.slice a0 l0 c0) xs ∧ ∀ x ∈ xs, -9223372036854775808 ≤ x ∧ x ≤ 9223372036854775807) (hB : RdZ w.heap.size w (.slice a1 l1 c1) ys ∧ ∀ x ∈ ys, -9223372036854775808 ≤ x ∧ x ≤ 9223372036854775807) :
    Calls Try.prog 4 #[.slice a0 l0 c0, .slice a1 l1 c1] w fun e w' => e = .returned (.bool true) ∧ Below w.heap.size w w' := by
  obtain ⟨hA, _⟩ := hA
  obtain ⟨hB, _⟩ := hB
  obtain ⟨hn0, _, hm0, h40⟩ := hA.nums
  have hn1 := hB.nums.1
  have HA := hidden (fun W (hb : Below w.heap.size w W) => hA.later hb)
  have HBB := hidden (fun W (hb : Below w.heap.size w W) => hB.later hb)
  have H4 := hidden (fun k (hk : k < l0) => hA.at k (by rw [← hn0]; exact hk))
  have HN0 := hidden hn0
  have HN1 := hidden hn1
  clear hA hB hn0 hn1 h40 hm0
  by_cases p0 : 200 < l0
  · have q0 : decide ((200 : Int) < (l0 : Int)) = true := decide_eq_true (by omega)
    have q0' : decide (200 < l0) = true := decide_eq_true p0
    clear p0
    go_enter Try.func4, Try.ntmps4
    go_wp2_with fail
    refine (knows_calls _).mono ?_
    rintro e w99 ⟨rfl, hb99⟩
    go_wp2
    go_ret
    exact ⟨rfl, below_after (Below.refl _ _) hb99⟩
  · have q0 : decide ((200 : Int) < (l0 : Int)) = false := decide_eq_false (by omega)
    have q0' : decide (200 < l0) = false := decide_eq_false p0
    by_cases p1 : 200 < l1
    · have q1 : decide ((200 : Int) < (l1 : Int)) = true := decide_eq_true (by omega)
      have q1' : decide (200 < l1) = true := decide_eq_true p1
      clear p0 p1
      go_enter Try.func4, Try.ntmps4
      go_wp2_with fail
      refine (knows_calls _).mono ?_
      rintro e w99 ⟨rfl, hb99⟩
      go_wp2
      go_ret
      exact ⟨rfl, below_after (Below.refl _ _) hb99⟩
    · have q1 : decide ((200 : Int) < (l1 : Int)) = false := decide_eq_false (by omega)
      have q1' : decide (200 < l1) = false := decide_eq_false p1
      have hlx : xs.length ≤ 200 := by have := HN0.out; omega
      have hly : ys.length ≤ 200 := by have := HN1.out; omega
      have HO1 := hidden (fun W (hb : Below w.heap.size w W) => of_calls W _ xs (HA.out W hb) (by omega))
      have HO2 := hidden (fun W (hb : Below w.heap.size w W) => of_calls W _ ys (HBB.out W hb) (by omega))
      have ux := (of_facts xs).1
      have uy := (of_facts ys).1
      have mx := (of_facts xs).2
      have lx : (ofV xs).length ≤ 200 := by
        have := puts_len xs []
        unfold ofV
        simp only [List.length_nil] at this
        omega
      have ly : (ofV ys).length ≤ 200 := by
        have := puts_len ys []
        unfold ofV
        simp only [List.length_nil] at this
        omega
      generalize ofV xs = A at *
      generalize ofV ys = B at *
      have HLX := hidden lx
      have HLY := hidden ly
      have UA := hidden ux
      have UB := hidden uy
      have UC := hidden (co_up ux uy)
      have UL := hidden (le_up ux uy)
      have UU := hidden (un_up ux uy)
      have E1 := hidden (co_le ux uy)
      have E2 := hidden (un_turn ux uy).symm
      have E3 := hidden (co_turn ux uy).symm
      have E4 := hidden (un_in ux uy)
      have E5 := hidden (co_in ux uy)
      have E6 := hidden (show upB (unV A B) = true from decide_eq_true (un_up ux uy))
      have LU := hidden (show (unV A B).length ≤ 400 from by have := un_len A B; omega)
      have LC := hidden (show (coV A B).length ≤ 400 from by have := un_len A B; omega)
      have LL := hidden (show (leV A B).length ≤ 400 from by
        have h1 := pick_len (fun k => k == 0) (evs A B)
        have h2 := evs_len _ A B (Nat.le_refl _)
        unfold leV
        omega)
      have hle2 : IntKind.i64.wrap ((A.length : Int) + (B.length : Int)) = (A.length : Int) + (B.length : Int) := by rw [IntKind.wrap_i64]; omega
      have hle3 : IntKind.i64.wrap ((A.length : Int) + (B.length : Int) - ((coV A B).length : Int)) = ((unV A B).length : Int) := by
        have h0 := un_len A B
        have h1 := LC.out
        have h2 : (A.length : Int) + (B.length : Int) - ((coV A B).length : Int) = ((unV A B).length : Int) := by omega
        have h3 := LU.out
        rw [h2, IntKind.wrap_i64]
        omega
      have HEL := hidden (fun k (hk : k < l0) => (show decide (xs.getD k 0 ∈ unV A B) = true ∧ (decide (xs.getD k 0 ∈ coV A B) == decide (xs.getD k 0 ∈ leV A B)) = false from by
        have hm : xs.getD k 0 ∈ A := by
          rw [mx, List.getD_eq_getElem?_getD, List.getElem?_eq_getElem (by rw [← HN0.out]; exact hk)]
          exact List.getElem_mem _
        refine ⟨decide_eq_true ((un_mem ux uy _).2 (.inl hm)), ?_⟩
        by_cases hb : xs.getD k 0 ∈ B
        · rw [decide_eq_true ((co_mem ux uy _).2 ⟨hm, hb⟩), decide_eq_false (fun h => ((le_mem ux uy _).1 h).2 hb)]
          rfl
        · rw [decide_eq_false (fun h => hb ((co_mem ux uy _).1 h).2), decide_eq_true ((le_mem ux uy _).2 ⟨hm, hb⟩)]
          rfl))
      have hl200 : l0 ≤ 200 := by omega
      clear p0 hlx hly ux uy mx lx ly p1
      obtain ⟨UN, hUN⟩ : ∃ UN, UN = unV A B := ⟨_, rfl⟩
      obtain ⟨CO, hCO⟩ : ∃ CO, CO = coV A B := ⟨_, rfl⟩
      obtain ⟨LE, hLE⟩ : ∃ LE, LE = leV A B := ⟨_, rfl⟩
      rw [← hUN] at UU E2 E4 E6 LU hle3 HEL
      rw [← hCO] at UC E1 E3 E5 LC hle3 HEL
      rw [← hLE] at UL E1 LL HEL
      have HUN := hidden hUN.symm
      have HCO := hidden hCO.symm
      have HLE := hidden hLE.symm
      clear hUN hCO hLE
      go_enter Try.func4, Try.ntmps4
      go_wp2_with fail
      refine (HO1.out _ (Below.refl _ _)).mono ?_
      rintro e w1 ⟨vA, rfl, hr1, hb1⟩
      have HB1 := hidden (hb1)
      have A_1 := hidden hr1.reads
      obtain ⟨aA, cA, rfl⟩ := hr1.form
      clear hr1 hb1
      go_wp2_with fail
      refine (HO2.out _ HB1.out).mono ?_
      rintro e w2 ⟨vB, rfl, hr2, hb2⟩
      have HB2 := hidden (below_after HB1.out hb2)
      have A_2 := hidden (A_1.out.later hb2)
      have B_2 := hidden hr2.reads
      obtain ⟨aB, cB, rfl⟩ := hr2.form
      clear hr2 hb2
      go_wp2_with fail
      refine (com_calls _ _ _ _ _ A_2.out B_2.out (by have := HLX.out; have := HLY.out; omega)).mono ?_
      rintro e w3 ⟨vC, rfl, hr3, hb3⟩
      change RowZ _ _ _ (coV A B) at hr3
      rw [HCO.out] at hr3
      have HB3 := hidden (below_after HB2.out hb3)
      have A_3 := hidden (A_2.out.later hb3)
      have B_3 := hidden (B_2.out.later hb3)
      have C_3 := hidden hr3.reads
      obtain ⟨aC, cC, rfl⟩ := hr3.form
      clear hr3 hb3
      go_wp2_with fail
      refine (les_calls _ _ _ _ _ A_3.out B_3.out (by have := HLX.out; have := HLY.out; omega)).mono ?_
      rintro e w4 ⟨vL, rfl, hr4, hb4⟩
      change RowZ _ _ _ (leV A B) at hr4
      rw [HLE.out] at hr4
      have HB4 := hidden (below_after HB3.out hb4)
      have A_4 := hidden (A_3.out.later hb4)
      have B_4 := hidden (B_3.out.later hb4)
      have C_4 := hidden (C_3.out.later hb4)
      have L_4 := hidden hr4.reads
      obtain ⟨aL, cL, rfl⟩ := hr4.form
      clear hr4 hb4
      go_wp2_with fail
      refine (uni_calls _ _ _ _ _ A_4.out B_4.out (by have := HLX.out; have := HLY.out; omega)).mono ?_
      rintro e w5 ⟨vU, rfl, hr5, hb5⟩
      change RowZ _ _ _ (unV A B) at hr5
      rw [HUN.out] at hr5
      have HB5 := hidden (below_after HB4.out hb5)
      have A_5 := hidden (A_4.out.later hb5)
      have B_5 := hidden (B_4.out.later hb5)
      have C_5 := hidden (C_4.out.later hb5)
      have L_5 := hidden (L_4.out.later hb5)
      have U_5 := hidden hr5.reads
      obtain ⟨aU, cU, rfl⟩ := hr5.form
      clear hr5 hb5
      have KA := hidden (fun W (hb : Below w5.heap.size w5 W) => And.intro (A_5.out.later hb) (And.intro (B_5.out.later hb) (And.intro (C_5.out.later hb) (And.intro (L_5.out.later hb) (U_5.out.later hb)))))
      have HBN := hidden HB5.out
      go_wp2
      go_loopw [10] (fun i wr => ∃ k : Nat, k ≤ l0 ∧ i = .int .i64 k ∧ Below w5.heap.size w5 wr) (fun i _ => l0 - (intOf i).toNat)
      case atStart => exact ⟨0, by omega, rfl, Below.refl _ _⟩
      case round =>
        obtain ⟨k, hk, rfl, hb⟩ := hrel
        have HK := hidden hb
        clear hb
        by_cases hlt : k < l0
        · obtain ⟨b, off, rfl, hbB, hc⟩ := H4.out k hlt
          obtain ⟨el1, el2⟩ := HEL.out k hlt
          have hcell := ((below_after HBN.out HK.out).cell (p := ⟨b, off + k, none⟩) hbB).trans hc
          have hbl := cell_lt hcell
          have hz : ∀ p : Later wr, p.at'.cell? ⟨b, off + k, none⟩ = some (.int .i64 (xs.getD k 0)) := fun p => Later.cell hcell hbl p
          generalize xs.getD k 0 = x at *
          obtain ⟨hu1, hhu⟩ : ∃ q, q = decide (x ∈ UN) := ⟨_, rfl⟩
          obtain ⟨hc1, hhc⟩ : ∃ q, q = decide (x ∈ CO) := ⟨_, rfl⟩
          obtain ⟨hl1, hhl⟩ : ∃ q, q = decide (x ∈ LE) := ⟨_, rfl⟩
          rw [← hhu] at el1
          rw [← hhc, ← hhl] at el2
          have CU := hidden (fun (p : Later wr) => Later.calls (has_calls p.at' _ _ x (KA.out _ (below_after HK.out p.ok)).2.2.2.2 UU.out (by have := LU.out; omega)))
          have CC := hidden (fun (p : Later wr) => Later.calls (has_calls p.at' _ _ x (KA.out _ (below_after HK.out p.ok)).2.2.1 UC.out (by have := LC.out; omega)))
          have CL := hidden (fun (p : Later wr) => Later.calls (has_calls p.at' _ _ x (KA.out _ (below_after HK.out p.ok)).2.2.2.1 UL.out (by have := LL.out; omega)))
          rw [← hhu] at CU
          rw [← hhc] at CC
          rw [← hhl] at CL
          have HLT := hidden hlt
          subst el1
          clear hcell hc hhu hhc hhl hbl
          go_wp2
          refine wp_region_later (by kernel_rfl) (by kernel_rfl) ?_
          repeat (go_big_quiet_step (first | (with_reducible exact CU.out _) | (with_reducible exact CC.out _) | (with_reducible exact CL.out _)))
          refine wpQuiet_nil ?_
          rintro w20 ⟨⟨_, hb20⟩, rfl⟩
          have HB20 := hidden (below_after HK.out hb20)
          clear hb20 hz
          go_wp2
          have hlt' := HLT.out
          go_roundw
          case rel => exact ⟨k + 1, by omega, by go_num, HB20.out⟩
          case measure => simp [intOf]; omega
        · have d0 : decide ((k : Int) < (l0 : Int)) = false := decide_eq_false (by omega)
          have d0' : decide (k < l0) = false := decide_eq_false hlt
          have HB105 := hidden (below_after HBN.out HK.out)
          have A_w := hidden (KA.out _ HK.out).1
          have B_w := hidden (KA.out _ HK.out).2.1
          have C_w := hidden (KA.out _ HK.out).2.2.1
          have L_w := hidden (KA.out _ HK.out).2.2.2.1
          have U_w := hidden (KA.out _ HK.out).2.2.2.2
          clear hlt hk
          go_wp2_with fail
          refine (uni_calls _ _ _ _ _ C_w.out L_w.out (by have := LC.out; have := LL.out; omega)).mono ?_
          rintro e w106 ⟨vP, rfl, hr106, hb106⟩
          change RowZ _ _ _ (unV CO LE) at hr106
          rw [E1.out] at hr106
          have HB106 := hidden (below_after HB105.out hb106)
          have A_106 := hidden (A_w.out.later hb106)
          have B_106 := hidden (B_w.out.later hb106)
          have C_106 := hidden (C_w.out.later hb106)
          have L_106 := hidden (L_w.out.later hb106)
          have U_106 := hidden (U_w.out.later hb106)
          have P_106 := hidden hr106.reads
          obtain ⟨aP, cP, rfl⟩ := hr106.form
          clear hr106 hb106
          go_wp2_with fail
          refine (same_calls _ _ _ _ _ P_106.out A_106.out).mono ?_
          rintro e w107 ⟨rfl, hb107⟩
          rw [same_self]
          have HB107 := hidden (below_after HB106.out hb107)
          have A_107 := hidden (A_106.out.later hb107)
          have B_107 := hidden (B_106.out.later hb107)
          have C_107 := hidden (C_106.out.later hb107)
          have L_107 := hidden (L_106.out.later hb107)
          have U_107 := hidden (U_106.out.later hb107)
          have P_107 := hidden (P_106.out.later hb107)
          clear hb107
          go_wp2_with fail
          refine (uni_calls _ _ _ _ _ B_107.out A_107.out (by have := HLX.out; have := HLY.out; omega)).mono ?_
          rintro e w108 ⟨vQ, rfl, hr108, hb108⟩
          change RowZ _ _ _ (unV B A) at hr108
          rw [E2.out] at hr108
          have HB108 := hidden (below_after HB107.out hb108)
          have A_108 := hidden (A_107.out.later hb108)
          have B_108 := hidden (B_107.out.later hb108)
          have C_108 := hidden (C_107.out.later hb108)
          have L_108 := hidden (L_107.out.later hb108)
          have U_108 := hidden (U_107.out.later hb108)
          have Q_108 := hidden hr108.reads
          obtain ⟨aQ, cQ, rfl⟩ := hr108.form
          clear hr108 hb108
          go_wp2_with fail
          refine (same_calls _ _ _ _ _ U_108.out Q_108.out).mono ?_
          rintro e w109 ⟨rfl, hb109⟩
          rw [same_self]
          have HB109 := hidden (below_after HB108.out hb109)
          have A_109 := hidden (A_108.out.later hb109)
          have B_109 := hidden (B_108.out.later hb109)
          have C_109 := hidden (C_108.out.later hb109)
          have L_109 := hidden (L_108.out.later hb109)
          have U_109 := hidden (U_108.out.later hb109)
          have Q_109 := hidden (Q_108.out.later hb109)
          clear hb109
          go_wp2_with fail
          refine (com_calls _ _ _ _ _ B_109.out A_109.out (by have := HLX.out; have := HLY.out; omega)).mono ?_
          rintro e w110 ⟨vS, rfl, hr110, hb110⟩
          change RowZ _ _ _ (coV B A) at hr110
          rw [E3.out] at hr110
          have HB110 := hidden (below_after HB109.out hb110)
          have A_110 := hidden (A_109.out.later hb110)
          have B_110 := hidden (B_109.out.later hb110)
          have C_110 := hidden (C_109.out.later hb110)
          have L_110 := hidden (L_109.out.later hb110)
          have U_110 := hidden (U_109.out.later hb110)
          have S_110 := hidden hr110.reads
          obtain ⟨aS, cS, rfl⟩ := hr110.form
          clear hr110 hb110
          go_wp2_with fail
          refine (same_calls _ _ _ _ _ C_110.out S_110.out).mono ?_
          rintro e w111 ⟨rfl, hb111⟩
          rw [same_self]
          have HB111 := hidden (below_after HB110.out hb111)
          have A_111 := hidden (A_110.out.later hb111)
          have B_111 := hidden (B_110.out.later hb111)
          have C_111 := hidden (C_110.out.later hb111)
          have L_111 := hidden (L_110.out.later hb111)
          have U_111 := hidden (U_110.out.later hb111)
          have S_111 := hidden (S_110.out.later hb111)
          clear hb111
          go_wp2_with fail
          refine (right_calls _ _ _ U_111.out).mono ?_
          rintro e w112 ⟨rfl, hb112⟩
          rw [E6.out]
          have HB112 := hidden (below_after HB111.out hb112)
          have A_112 := hidden (A_111.out.later hb112)
          have B_112 := hidden (B_111.out.later hb112)
          have C_112 := hidden (C_111.out.later hb112)
          have L_112 := hidden (L_111.out.later hb112)
          have U_112 := hidden (U_111.out.later hb112)
          clear hb112
          go_wp2_with fail
          refine (within_calls _ _ _ _ _ A_112.out U_112.out).mono ?_
          rintro e w113 ⟨rfl, hb113⟩
          rw [show (pickV (fun k => k == 0) (evs A UN)).isEmpty = true from E4.out]
          have HB113 := hidden (below_after HB112.out hb113)
          have A_113 := hidden (A_112.out.later hb113)
          have B_113 := hidden (B_112.out.later hb113)
          have C_113 := hidden (C_112.out.later hb113)
          have L_113 := hidden (L_112.out.later hb113)
          have U_113 := hidden (U_112.out.later hb113)
          clear hb113
          go_wp2_with fail
          refine (within_calls _ _ _ _ _ C_113.out B_113.out).mono ?_
          rintro e w114 ⟨rfl, hb114⟩
          rw [show (pickV (fun k => k == 0) (evs CO B)).isEmpty = true from E5.out]
          have HB114 := hidden (below_after HB113.out hb114)
          have A_114 := hidden (A_113.out.later hb114)
          have B_114 := hidden (B_113.out.later hb114)
          have C_114 := hidden (C_113.out.later hb114)
          have L_114 := hidden (L_113.out.later hb114)
          have U_114 := hidden (U_113.out.later hb114)
          clear hb114
          go_wp2_with fail
          refine (knows_calls _).mono ?_
          rintro e w99 ⟨rfl, hb99⟩
          go_wp2
          go_ret
          exact ⟨rfl, below_after HB114.out hb99⟩

set_option maxRecDepth 100000 in
theorem lifted (os : Os) (started : os.Started) (H : Type) (enc : TypeId × Value → H) :
    ReturnsInHanded {} Try.checked os 4 .any (Rows.manyPartsSpec.pre6 enc Try.prog Try.f4 Rows.manyPartsRow.domain false) (Rows.manyPartsSpec.post enc Try.prog Try.f4 false true false false) := by
  refine returnsInHanded_of_change (C := Try.checked) own started (by kernel_rfl) Try.func4
    (ChangeSpec.witness6 (enc := enc) (C := Try.checked) false ⟨#[], #[.slice none 0 0, .slice none 0 0], []⟩ 8 (by kernel_rfl) (by kernel_rfl) (by kernel_rfl) (by kernel_rfl)) ?_
  intro W base args ds gs before hval0 hW hcnd _
  have hval : ∀ (j : Nat) t v, Try.f4.params[j]? = some t → args[j]? = some v → Value.okWide Try.prog W .any base t v := hval0
  have hW' : DataW.Whole enc Try.prog Try.f4.params.toList Rows.manyPartsSpec.vars false W args.toList ds gs before := hW
  obtain ⟨p, q, hA0, hV, rfl, hfz, hnd⟩ := hW
  have hA : DataW.TrodAll enc Try.prog W 0 (fun _ => true) true Try.f4.params.toList args.toList ds p := hA0
  have hlt : ∀ x ∈ p, x.block < W.heap.size := fun x hx => hW'.lt x (List.mem_append_left _ hx)
  rw [Try.params4] at hA hval
  obtain ⟨v0, vs0, d0, ds0, p0, q0, hargs, hd0, hp0, h0, r0⟩ := trodAll_cons hA
  obtain ⟨v1, vs1, d1, ds1, p1, q1, rfl, hd1, hp1, h1, r1⟩ := trodAll_cons r0
  obtain ⟨rfl, _, _⟩ := trodAll_nil r1
  obtain rfl : args = #[v0, v1] := by cases args; simp_all
  obtain ⟨a0, len0, cap0, rfl⟩ := okWide_slice Try.underlying22 (hval 0 22 v0 rfl rfl)
  obtain ⟨z0, w0⟩ := open_zs h0
  obtain ⟨a1, len1, cap1, rfl⟩ := okWide_slice Try.underlying22 (hval 1 22 v1 rfl rfl)
  obtain ⟨z1, w1⟩ := open_zs h1
  refine (walk a0 len0 cap0 z0 a1 len1 cap1 z1 W w0 w1).mono fun e W' ⟨he, hb⟩ => ⟨_, he, ends_true hW' rfl (by kernel_rfl) ?_ (by kernel_rfl) hb⟩
  intro xs hxs
  match xs, hxs with
  | [_, _], _ => rfl

theorem proved : Rows.ManyPartsSaid :=
  OpenClaim.holds_of_wide 4 Try.f4 rfl rfl rfl rfl rfl rfl rfl ⟨rfl, rfl, rfl, rfl, rfl⟩ rfl rfl rfl rfl rfl (by kernel_rfl) Try.func4 (by kernel_rfl)
    (of_decide_eq_true (by kernel_rfl)) (by unfold Func.isWrapper; first | (rw [if_pos (by decide +kernel)]; kernel_rfl) | (rw [if_neg (by decide +kernel)]; exact ⟨rfl, rfl⟩))
    (fun os started H enc _ => lifted os started H enc)

end Go.Proofs.Ytbnohmbdfcapkaa.lawManyParts
