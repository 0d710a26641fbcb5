/- SpRSets, SpFols, SpRef, SpKn, put together. -/
import Derived.Test.YtgaadndhecokfaaMu06
import Derived.Test.YtgaadndhecokfaaMu07
import Derived.Test.YtgaadndhecokfaaMu12
import Derived.Test.YtgaadndhecokfaaMu17
import Derived.Test.YtgaadndhecokfaaMu04
import Derived.Test.YtgaadndhecokfaaMu26
/- Contract of the reference's Sets. -/
namespace Go.Proofs.Ytgaadndhecokfaa
open Go.RowKit Go.Lib Go.Joins
theorem RowS.lit (w : World) (b : Nat) (hb : b = w.heap.size) (cur : Array Value) (hc : cur = #[]) : RowS (w.alloc (.cells cur 90)) w.heap.size (.slice (some ⟨b, 0, none⟩) 0 0) [] := by
  subst hb hc
  exact World.ownsRow_lit (e := 90) (size := 4) w #[] 0 (Nat.le_refl _) (by decide) rfl
attribute [local irreducible] sets
set_option maxHeartbeats 4000000 in
set_option maxRecDepth 100000 in
theorem rsets_none {C : Nat → Prop} {v : Value} {L : List Stp} {w : World} (h : SlX C w v L) (hC : ∀ b, C b → b < w.heap.size) (hz : (measV L).2 ≠ 0) : Calls Try.prog 39 #[v] w (RetS w []) := by
  have hb0 := (Below.refl w.heap.size w).alloc (Nat.le_refl _) (.cells #[] 90)
  have HK := hidden (rcheck_slX (h.below (C' := fun b => b < w.heap.size) (w' := w.alloc (.cells #[] 90)) fun b hb => ⟨hC b hb, hb0.block b (hC b hb)⟩))
  have HN := hidden (RowS.lit w _ rfl #[] rfl)
  obtain ⟨a, cap, rfl, _⟩ := h
  generalize (measV L).2 = r at *
  have hne : (r != 0) = true := by simpa using hz
  have HB := hidden hb0
  clear hC hb0
  go_enter Try.func39, Try.ntmps39
  go_wp2_with fail
  refine HK.out.mono ?_
  rintro e w1 ⟨rfl, rfl⟩
  go_wp2
  go_ret
  exact ⟨_, rfl, HN.out, HB.out⟩
set_option maxHeartbeats 4000000 in
set_option maxRecDepth 100000 in
theorem rsets_calls {C : Nat → Prop} {v : Value} {L : List Stp} {w : World} (h : SlX C w v L) (hC : ∀ b, C b → b < w.heap.size) (hz : (measV L).2 = 0) (hl : L.length ≤ 512) : Calls Try.prog 39 #[v] w (RetS w (sets L)) := by
  have hb0 := (Below.refl w.heap.size w).alloc (Nat.le_refl _) (.cells #[] 90)
  have HK := hidden (rcheck_slX (h.below (C' := fun b => b < w.heap.size) (w' := w.alloc (.cells #[] 90)) fun b hb => ⟨hC b hb, hb0.block b (hC b hb)⟩))
  rw [hz] at HK
  have HN := hidden (RowS.lit w _ rfl #[] rfl)
  have HB0 := hidden hb0
  have hpos := expr_ne (meas_expr hz).2
  obtain ⟨a, cap, rfl, hcap, hmax, _, hS⟩ := h
  obtain ⟨b, off, rfl, hCb, hc⟩ := hS.2 hpos
  have hbl := hC b hCb
  have HC := hidden (fun W2 (hW2 : Below w.heap.size w W2) k (hk : k < L.length) => (hc k hk).kept (w' := W2) (hW2.block b hbl))
  have HT := hidden (fun k (h : k < L.length) => sets_take h)
  have HLN := hidden (fun k => sets_len L k)
  have HE := hidden (show sets (L.take L.length) = sets L by rw [List.take_length])
  have H0 := hidden (show sets (L.take 0) = [] by unfold sets; rfl)
  obtain ⟨n, hn⟩ : ∃ n, n = L.length := ⟨_, rfl⟩
  rw [← hn] at HC HT HE hcap hl hpos HK ⊢
  unfold maxLen at hmax
  clear hC hS hc hn hz hb0
  go_enter Try.func39, Try.ntmps39
  go_wp2_with fail
  refine HK.out.mono ?_
  rintro e w1 ⟨rfl, rfl⟩
  go_wp2
  go_loopw [3, 4] (fun v i wr => ∃ (k : Nat) (o : Value), k ≤ n ∧ o = v ∧ i = .int .i64 k ∧ RowS wr w.heap.size o (sets (L.take k)) ∧ Below w.heap.size w wr) (fun _ i _ => n - (Go.RowKit.intOf i).toNat)
  case atStart => exact ⟨0, _, by omega, rfl, rfl, by rw [H0.out]; exact HN.out, HB0.out⟩
  case round =>
    obtain ⟨k, o, hk, rfl, rfl, hG, hb⟩ := hrel
    have HG := hidden hG
    have HB := hidden hb
    have hsz := hb.size
    by_cases hlt : k < n
    · obtain ⟨c0, c1, c2, c3, c4⟩ := HC.out wr hb k hlt
      have HTK := hidden (HT.out k hlt)
      have hln := HLN.out k
      generalize hst : L.getD k default = s at *
      obtain ⟨sk, sa, sb, sc, sd⟩ := s
      dsimp only at *
      have hbr : b < wr.heap.size := by omega
      obtain ⟨m, hm⟩ : ∃ m, m = (sets (L.take k)).length := ⟨_, rfl⟩
      rw [← hm] at hln
      have HM := hidden hm.symm
      clear hG hb hst hm
      by_cases h1 : sk = 1
      · subst h1
        have HR := hidden (show sets (L.take (k + 1)) = sets (L.take k) ++ [⟨1, sa, sb, sc, sd⟩] by rw [HTK.out]; rfl)
        have HA := hidden (HG.out.kept ((Below.refl wr.heap.size wr).alloc (Nat.le_refl _) (.cells #[.int .u64 sa, .int .u64 sb, .int .u64 sc, .int .u64 sd] 90)))
        have HBA := hidden (HB.out.alloc hsz (.cells #[.int .u64 sa, .int .u64 sb, .int .u64 sc, .int .u64 sd] 90))
        clear HTK
        go_wp2_with (at_builtin; refine app_s (z := ⟨1, sa, sb, sc, sd⟩) rfl _ _ rfl rfl HA.out rfl (heap_alloc_new wr _) HM.out (by omega) (by simp; omega) ?_; intro g' c' w3 hr3 hg3 hb3; have HR3 := hidden hr3; have HB3 := hidden (HBA.out.trans hb3); clear hr3 hg3 hb3)
        go_roundw
        case rel => exact ⟨k + 1, _, by omega, rfl, by go_num, by rw [HR.out]; exact HR3.out, HB3.out⟩
        case measure => simp [Go.RowKit.intOf]; omega
      · have HR := hidden (show sets (L.take (k + 1)) = sets (L.take k) by rw [HTK.out, if_neg h1])
        have hq : (sk == 1) = false := by simpa using h1
        clear HTK
        go_wp2
        go_roundw
        case rel => exact ⟨k + 1, _, by omega, rfl, by go_num, by rw [HR.out]; exact HG.out, HB.out⟩
        case measure => simp [Go.RowKit.intOf]; omega
    · have e : k = n := by omega
      subst e
      clear hG hb
      go_wp2
      go_ret
      rw [HE.out] at HG
      exact ⟨_, rfl, HG.out, HB.out⟩
end Go.Proofs.Ytgaadndhecokfaa

/- Contracts of the reference's follows, First, Last, Free and Follow. -/
namespace Go.Proofs.Ytgaadndhecokfaa
open Go.RowKit Go.Lib Go.Joins
theorem sets_flat : ∀ (r : List Ex), (∀ e ∈ r, e.ok) → (sets (r.flatMap ops)).length = plcs r
  | [], _ => rfl
  | e :: r, h => by
    rw [List.flatMap_cons, sets_append, List.length_append, sets_ops e (h e (by simp)), sets_flat r fun x hx => h x (by simp [hx])]
    rfl
theorem mem_spI (p : Nat) (X : List Nat) : ((p : Int) ∈ spI X) ↔ p ∈ X := by
  unfold spI
  rw [List.mem_map]
  exact ⟨fun ⟨a, h, e⟩ => by rw [show p = a by omega]; exact h, fun h => ⟨p, h, rfl⟩⟩
/-- what one step adds, as the reference finds it -/
inductive Fst (b off cap : Nat) (L : List Stp) (k : Nat) (kd : Int) : List (Prt × Prt) → Prop
  | skip (h : kd ≠ 3 ∧ kd ≠ 5 ∧ kd ≠ 6) : Fst b off cap L k kd []
  | rep (h : kd = 5 ∨ kd = 6) (j : Nat) (hj : j + 1 = k) (X Y : List Nat) (x : Prt) (hX : TellZ b off cap L true j (spI X)) (hY : TellZ b off cap L false j (spI Y)) (mX : ∀ p : Nat, ((p : Int) ∈ spI X) ↔ x.last p = true) (mY : ∀ p : Nat, ((p : Int) ∈ spI Y) ↔ x.first p = true) : Fst b off cap L k kd [(x, x)]
  | cat (h : kd = 3) (j y l : Nat) (hj : j + 1 = k) (hy : l + 1 = y) (hy1 : y ≤ 1000) (hB : Begins b off cap L j y) (X Y : List Nat) (x z : Prt) (hX : TellZ b off cap L true l (spI X)) (hY : TellZ b off cap L false j (spI Y)) (mX : ∀ p : Nat, ((p : Int) ∈ spI X) ↔ x.last p = true) (mY : ∀ p : Nat, ((p : Int) ∈ spI Y) ↔ z.first p = true) : Fst b off cap L k kd [(x, z)]
theorem fst_of {b off cap : Nat} {L : List Stp} {k : Nat} (hk : k < L.length) (hE : Expr L) (hwd : ∀ s ∈ L, s.wide) (hl : L.length ≤ 512) (hc : L.length ≤ cap) (hm : cap ≤ maxLen) : ∃ new, fMet (trees L (k + 1)) 0 = fMet (trees L k) 0 ++ new ∧ Fst b off cap L k (L.getD k default).k new := by
  have hF := forms_at hE.1 hwd k (by omega)
  obtain ⟨hN, _⟩ := next_of hk hE.1 hwd hF
  have hsp : L = L.take k ++ L.drop k := (List.take_append_drop k L).symm
  have hlen : (L.take k).length = k := by rw [List.length_take]; omega
  generalize hT : trees L k = T at *
  generalize hT' : trees L (k + 1) = T' at *
  generalize hs : L.getD k default = s at *
  have mL : ∀ (e : Ex) (n p : Nat), ((p : Int) ∈ spI (endE true e n)) ↔ gL e n p = true := fun e n p => by rw [mem_spI, endE_mem]; rfl
  have mF : ∀ (e : Ex) (n p : Nat), ((p : Int) ∈ spI (endE false e n)) ↔ gF e n p = true := fun e n p => by rw [mem_spI, endE_mem]; rfl
  cases hN with
  | set _ h e => exact ⟨[], by rw [fMet_one]; simp [met], .skip (by omega)⟩
  | emp _ e => exact ⟨[], by rw [fMet_one]; simp [met], .skip (by rw [e]; simp [kStp])⟩
  | alt r a c e =>
    refine ⟨[], ?_, .skip (by rw [e]; simp [kStp])⟩
    rw [fMet_one, fMet_two]
    simp [met]
  | un r a e h =>
    obtain ⟨h1, h2⟩ := hF
    rw [List.flatMap_append, List.flatMap_cons, List.flatMap_nil, List.append_nil] at h1
    have ha := h2 a (by simp)
    have hp := ops_pos a
    have hsr := sets_flat r fun x hx => h2 x (by simp [hx])
    have hL : L = r.flatMap ops ++ ops a ++ L.drop k := by rw [h1]; exact hsp
    have hk2 : (r.flatMap ops).length + (ops a).length = k := by
      have := congrArg List.length h1
      rw [List.length_append, hlen] at this
      omega
    have hi : k - 1 + 1 = (r.flatMap ops).length + (ops a).length := by omega
    by_cases h7 : s.k = 7
    · refine ⟨[], ?_, .skip (by omega)⟩
      rw [fMet_one, fMet_one]
      simp [met, h7]
    · refine ⟨[(prtE a (plcs r), prtE a (plcs r))], ?_, .rep (by omega) (k - 1) (by omega) (endE true a (plcs r)) (endE false a (plcs r)) _ ?_ ?_ (mL _ _) (mF _ _)⟩
      · rw [fMet_one, fMet_one]
        simp [met, h7]
      · have := rends (b := b) (off := off) (cap := cap) true hl hc hm a ha _ _ _ hL hi
        rwa [hsr] at this
      · have := rends (b := b) (off := off) (cap := cap) false hl hc hm a ha _ _ _ hL hi
        rwa [hsr] at this
  | cat r a c e =>
    obtain ⟨h1, h2⟩ := hF
    rw [List.flatMap_append, List.flatMap_cons, List.flatMap_cons, List.flatMap_nil, List.append_nil] at h1
    have ha := h2 a (by simp)
    have hcc := h2 c (by simp)
    have hp := ops_pos a
    have hp2 := ops_pos c
    have hsr := sets_flat r fun x hx => h2 x (by simp [hx])
    have hL1 : L = r.flatMap ops ++ ops a ++ (ops c ++ L.drop k) := by
      conv => lhs; rw [hsp, ← h1]
      simp
    have hL2 : L = (r.flatMap ops ++ ops a) ++ ops c ++ L.drop k := by
      conv => lhs; rw [hsp, ← h1]
      simp
    have hk2 : (r.flatMap ops).length + ((ops a).length + (ops c).length) = k := by
      have := congrArg List.length h1
      rw [List.length_append, List.length_append, hlen] at this
      omega
    have hs2 : (sets (r.flatMap ops ++ ops a)).length = plcs r + plc a := by rw [sets_append, List.length_append, hsr, sets_ops a ha]
    refine ⟨[(prtE a (plcs r), prtE c (plcs r + plc a))], ?_, .cat (by rw [e]; rfl) (k - 1) (r.flatMap ops ++ ops a).length ((r.flatMap ops).length + (ops a).length - 1) (by omega) (by simp only [List.length_append]; omega) (by simp only [List.length_append]; omega) (begins hcc (by omega) hL2 (by simp only [List.length_append]; omega)) (endE true a (plcs r)) (endE false c (plcs r + plc a)) _ _ ?_ ?_ (mL _ _) (mF _ _)⟩
    · rw [fMet_one, fMet_two]
      simp [met]
    · have := rends (b := b) (off := off) (cap := cap) true hl hc hm a ha _ _ ((r.flatMap ops).length + (ops a).length - 1) hL1 (by omega)
      rwa [hsr] at this
    · have := rends (b := b) (off := off) (cap := cap) false hl hc hm c hcc _ _ (k - 1) hL2 (by simp only [List.length_append]; omega)
      rwa [hs2] at this
def pq (p q : Nat) (x : Prt × Prt) : Bool := x.1.last p && x.2.first q
set_option maxHeartbeats 8000000 in
set_option maxRecDepth 100000 in
theorem rfollows_calls {b off cap : Nat} {L : List Stp} {w : World} (p q : Nat) (h : Lay b off L w) (hz : (measV L).2 = 0) (hwd : ∀ s ∈ L, s.wide) (hc : L.length ≤ cap) (hm : cap ≤ maxLen) :
    Calls Try.prog 58 #[.slice (some ⟨b, off, none⟩) L.length cap, .int .i64 p, .int .i64 q] w fun e w' => e = .returned (.bool ((met (treeE L) 0).any (pq p q))) ∧ Below w.heap.size w w' := by
  obtain ⟨h512, hE⟩ := meas_expr hz
  obtain ⟨hone, hok, hops⟩ := tree_of hE hwd
  obtain ⟨D, hD⟩ : ∃ D : Nat → Bool, D = fun k => (fMet (trees L k) 0).any (pq p q) := ⟨_, rfl⟩
  have HST := hidden (fun k (hk : k < L.length) => (show ∃ new, D (k + 1) = (D k || new.any (pq p q)) ∧ Fst b off cap L k (L.getD k default).k new from by
    obtain ⟨new, h1, h2⟩ := fst_of (b := b) (off := off) (cap := cap) hk hE hwd h512 hc hm
    exact ⟨new, by rw [hD]; simp only [h1, List.any_append], h2⟩))
  have HZ := hidden (show D 0 = false by rw [hD]; rfl)
  have HE := hidden (show D L.length = (met (treeE L) 0).any (pq p q) by rw [hD]; simp only [hone]; simp [fMet])
  have HUP := hidden (fun k (hk : k ≤ L.length) => (show D k = true → D L.length = true from by
    intro ht
    have key : ∀ d, k + d ≤ L.length → D (k + d) = true := by
      intro d
      induction d with
      | zero => intro _; exact ht
      | succ d ih =>
        intro hd
        obtain ⟨new, h1, _⟩ := HST.out (k + d) (by omega)
        rw [← Nat.add_assoc, h1, ih (by omega)]
        rfl
    have := key (L.length - k) (by omega)
    rwa [show k + (L.length - k) = L.length by omega] at this))
  have HLY := hidden h
  have HKD := hidden (fun w' (hw : Below w.heap.size w w') k (hk : k < L.length) => (h.below hw).kind hk rfl)
  generalize hR : (met (treeE L) 0).any (pq p q) = R at *
  obtain ⟨n, hn⟩ : ∃ n, n = L.length := ⟨_, rfl⟩
  rw [← hn] at HST HE HUP HKD h512 ⊢
  have HNN := hidden hn.symm
  clear h hE hone hok hops hD hR hn hz hwd hc hm
  go_enter Try.func58, Try.ntmps58
  go_wp2
  go_loopw [7] (fun i wr => ∃ k : Nat, k ≤ n ∧ i = .int .i64 k ∧ Hid (D k = false) ∧ Below w.heap.size w wr) (fun i _ => n - (Go.RowKit.intOf i).toNat)
  case atStart => exact ⟨0, by omega, rfl, HZ, Below.refl _ _⟩
  case round =>
    obtain ⟨k, hk, rfl, hdk, hb⟩ := hrel
    have HB := hidden hb
    clear hb
    by_cases hlt : k < n
    · have c0 := HKD.out wr HB.out k hlt
      obtain ⟨new, hnew, hfst⟩ := HST.out k hlt
      have hsub : 1 ≤ k → IntKind.i64.wrap ((k : Int) - 1) = ((k - 1 : Nat) : Int) := fun h => by rw [IntKind.wrap_i64]; omega
      have hlt' := hlt
      generalize (L.getD k default).k = kd at *
      rw [hdk.out, Bool.false_or] at hnew
      have HNEW := hidden hnew
      clear hnew
      rcases hfst with ⟨h3, h5, h6⟩ | ⟨hkd, j, hj, X, Y, x, hX, hY, mX, mY⟩ | ⟨hkd, j, y, l, hj, hy, hy1, hB, X, Y, x, z, hX, hY, mX, mY⟩
      · have q3 : (kd == 3) = false := by simpa using h3
        have q5 : (kd == 5) = false := by simpa using h5
        have q6 : (kd == 6) = false := by simpa using h6
        have HD1 := hidden (show D (k + 1) = false by rw [HNEW.out]; rfl)
        clear hsub h3 h5 h6 hdk
        go_wp2
        go_roundw
        case rel => exact ⟨k + 1, by omega, by go_num, HD1, HB.out⟩
        case measure => simp [Go.RowKit.intOf]; omega
      · have hs1 := hsub (by omega)
        have hjk : k - 1 = j := by omega
        rw [hjk] at hs1
        have HTX := hidden hX
        have HTY := hidden hY
        have HX := hidden (fun v : Bool => fun (h : x.last p = v) => (show decide ((p : Int) ∈ spI X) = v from by cases v; exact decide_eq_false (by rw [mX, h]; decide); exact decide_eq_true (by rw [mX, h])))
        have HY := hidden (fun v : Bool => fun (h : x.first q = v) => (show decide ((q : Int) ∈ spI Y) = v from by cases v; exact decide_eq_false (by rw [mY, h]; decide); exact decide_eq_true (by rw [mY, h])))
        have HND := hidden (show D (k + 1) = (x.last p && x.first q) by rw [HNEW.out]; simp [pq])
        clear hsub hdk hX hY mX mY HNEW hj hjk
        generalize spI X = SX at *
        generalize spI Y = SY at *
        generalize x.last p = u at *
        generalize x.first q = v at *
        rcases hkd with rfl | rfl
        · cases u
          case false =>
            go_wp2_with fail
            rw [← HNN.out]
            refine (HTX.out _ (HLY.out.below HB.out)).mono ?_
            rintro e w1X ⟨vX, rfl, hrX, hbX⟩
            have HBX := hidden (below_after HB.out hbX)
            have HHX := hidden (has10_calls (B := w1X.heap.size) w1X vX _ (p : Int) hrX.reads)
            obtain ⟨aX, cX, rfl⟩ := hrX.form
            rw [HNN.out]
            clear hrX hbX
            go_wp2_with fail
            refine HHX.out.mono ?_
            rintro e w2X ⟨rfl, hbX⟩
            have HCX := hidden (below_after HBX.out hbX)
            rw [HX.out false rfl]
            clear hbX
            have HD1 := hidden (show D (k + 1) = false by rw [HND.out]; rfl)
            go_wp2
            go_roundw
            case rel => exact ⟨k + 1, by omega, by go_num, HD1, HCX.out⟩
            case measure => simp [Go.RowKit.intOf]; omega
          case true =>
            cases v
            case false =>
              go_wp2_with fail
              rw [← HNN.out]
              refine (HTX.out _ (HLY.out.below HB.out)).mono ?_
              rintro e w1X ⟨vX, rfl, hrX, hbX⟩
              have HBX := hidden (below_after HB.out hbX)
              have HHX := hidden (has10_calls (B := w1X.heap.size) w1X vX _ (p : Int) hrX.reads)
              obtain ⟨aX, cX, rfl⟩ := hrX.form
              rw [HNN.out]
              clear hrX hbX
              go_wp2_with fail
              refine HHX.out.mono ?_
              rintro e w2X ⟨rfl, hbX⟩
              have HCX := hidden (below_after HBX.out hbX)
              rw [HX.out true rfl]
              clear hbX
              go_wp2_with fail
              rw [← HNN.out]
              refine (HTY.out _ (HLY.out.below HCX.out)).mono ?_
              rintro e w1Y ⟨vY, rfl, hrY, hbY⟩
              have HBY := hidden (below_after HCX.out hbY)
              have HHY := hidden (has10_calls (B := w1Y.heap.size) w1Y vY _ (q : Int) hrY.reads)
              obtain ⟨aY, cY, rfl⟩ := hrY.form
              rw [HNN.out]
              clear hrY hbY
              go_wp2_with fail
              refine HHY.out.mono ?_
              rintro e w2Y ⟨rfl, hbY⟩
              have HCY := hidden (below_after HBY.out hbY)
              rw [HY.out false rfl]
              clear hbY
              have HD1 := hidden (show D (k + 1) = false by rw [HND.out]; rfl)
              go_wp2
              go_roundw
              case rel => exact ⟨k + 1, by omega, by go_num, HD1, HCY.out⟩
              case measure => simp [Go.RowKit.intOf]; omega
            case true =>
              go_wp2_with fail
              rw [← HNN.out]
              refine (HTX.out _ (HLY.out.below HB.out)).mono ?_
              rintro e w1X ⟨vX, rfl, hrX, hbX⟩
              have HBX := hidden (below_after HB.out hbX)
              have HHX := hidden (has10_calls (B := w1X.heap.size) w1X vX _ (p : Int) hrX.reads)
              obtain ⟨aX, cX, rfl⟩ := hrX.form
              rw [HNN.out]
              clear hrX hbX
              go_wp2_with fail
              refine HHX.out.mono ?_
              rintro e w2X ⟨rfl, hbX⟩
              have HCX := hidden (below_after HBX.out hbX)
              rw [HX.out true rfl]
              clear hbX
              go_wp2_with fail
              rw [← HNN.out]
              refine (HTY.out _ (HLY.out.below HCX.out)).mono ?_
              rintro e w1Y ⟨vY, rfl, hrY, hbY⟩
              have HBY := hidden (below_after HCX.out hbY)
              have HHY := hidden (has10_calls (B := w1Y.heap.size) w1Y vY _ (q : Int) hrY.reads)
              obtain ⟨aY, cY, rfl⟩ := hrY.form
              rw [HNN.out]
              clear hrY hbY
              go_wp2_with fail
              refine HHY.out.mono ?_
              rintro e w2Y ⟨rfl, hbY⟩
              have HCY := hidden (below_after HBY.out hbY)
              rw [HY.out true rfl]
              clear hbY
              have HR := hidden (HE.out.symm.trans (HUP.out (k + 1) (by omega) (by rw [HND.out]; rfl)))
              go_wp2
              go_ret
              exact ⟨ret_b HR.out.symm, HCY.out⟩
        · cases u
          case false =>
            go_wp2_with fail
            rw [← HNN.out]
            refine (HTX.out _ (HLY.out.below HB.out)).mono ?_
            rintro e w1X ⟨vX, rfl, hrX, hbX⟩
            have HBX := hidden (below_after HB.out hbX)
            have HHX := hidden (has10_calls (B := w1X.heap.size) w1X vX _ (p : Int) hrX.reads)
            obtain ⟨aX, cX, rfl⟩ := hrX.form
            rw [HNN.out]
            clear hrX hbX
            go_wp2_with fail
            refine HHX.out.mono ?_
            rintro e w2X ⟨rfl, hbX⟩
            have HCX := hidden (below_after HBX.out hbX)
            rw [HX.out false rfl]
            clear hbX
            have HD1 := hidden (show D (k + 1) = false by rw [HND.out]; rfl)
            go_wp2
            go_roundw
            case rel => exact ⟨k + 1, by omega, by go_num, HD1, HCX.out⟩
            case measure => simp [Go.RowKit.intOf]; omega
          case true =>
            cases v
            case false =>
              go_wp2_with fail
              rw [← HNN.out]
              refine (HTX.out _ (HLY.out.below HB.out)).mono ?_
              rintro e w1X ⟨vX, rfl, hrX, hbX⟩
              have HBX := hidden (below_after HB.out hbX)
              have HHX := hidden (has10_calls (B := w1X.heap.size) w1X vX _ (p : Int) hrX.reads)
              obtain ⟨aX, cX, rfl⟩ := hrX.form
              rw [HNN.out]
              clear hrX hbX
              go_wp2_with fail
              refine HHX.out.mono ?_
              rintro e w2X ⟨rfl, hbX⟩
              have HCX := hidden (below_after HBX.out hbX)
              rw [HX.out true rfl]
              clear hbX
              go_wp2_with fail
              rw [← HNN.out]
              refine (HTY.out _ (HLY.out.below HCX.out)).mono ?_
              rintro e w1Y ⟨vY, rfl, hrY, hbY⟩
              have HBY := hidden (below_after HCX.out hbY)
              have HHY := hidden (has10_calls (B := w1Y.heap.size) w1Y vY _ (q : Int) hrY.reads)
              obtain ⟨aY, cY, rfl⟩ := hrY.form
              rw [HNN.out]
              clear hrY hbY
              go_wp2_with fail
              refine HHY.out.mono ?_
              rintro e w2Y ⟨rfl, hbY⟩
              have HCY := hidden (below_after HBY.out hbY)
              rw [HY.out false rfl]
              clear hbY
              have HD1 := hidden (show D (k + 1) = false by rw [HND.out]; rfl)
              go_wp2
              go_roundw
              case rel => exact ⟨k + 1, by omega, by go_num, HD1, HCY.out⟩
              case measure => simp [Go.RowKit.intOf]; omega
            case true =>
              go_wp2_with fail
              rw [← HNN.out]
              refine (HTX.out _ (HLY.out.below HB.out)).mono ?_
              rintro e w1X ⟨vX, rfl, hrX, hbX⟩
              have HBX := hidden (below_after HB.out hbX)
              have HHX := hidden (has10_calls (B := w1X.heap.size) w1X vX _ (p : Int) hrX.reads)
              obtain ⟨aX, cX, rfl⟩ := hrX.form
              rw [HNN.out]
              clear hrX hbX
              go_wp2_with fail
              refine HHX.out.mono ?_
              rintro e w2X ⟨rfl, hbX⟩
              have HCX := hidden (below_after HBX.out hbX)
              rw [HX.out true rfl]
              clear hbX
              go_wp2_with fail
              rw [← HNN.out]
              refine (HTY.out _ (HLY.out.below HCX.out)).mono ?_
              rintro e w1Y ⟨vY, rfl, hrY, hbY⟩
              have HBY := hidden (below_after HCX.out hbY)
              have HHY := hidden (has10_calls (B := w1Y.heap.size) w1Y vY _ (q : Int) hrY.reads)
              obtain ⟨aY, cY, rfl⟩ := hrY.form
              rw [HNN.out]
              clear hrY hbY
              go_wp2_with fail
              refine HHY.out.mono ?_
              rintro e w2Y ⟨rfl, hbY⟩
              have HCY := hidden (below_after HBY.out hbY)
              rw [HY.out true rfl]
              clear hbY
              have HR := hidden (HE.out.symm.trans (HUP.out (k + 1) (by omega) (by rw [HND.out]; rfl)))
              go_wp2
              go_ret
              exact ⟨ret_b HR.out.symm, HCY.out⟩
      · have hs1 := hsub (by omega)
        have hjk : k - 1 = j := by omega
        rw [hjk] at hs1
        have HTX := hidden hX
        have HTY := hidden hY
        have HBB := hidden hB
        have hs2 : IntKind.i64.wrap ((y : Int) - 1) = l := by rw [IntKind.wrap_i64]; omega
        subst hkd
        have HX := hidden (fun v : Bool => fun (h : x.last p = v) => (show decide ((p : Int) ∈ spI X) = v from by cases v; exact decide_eq_false (by rw [mX, h]; decide); exact decide_eq_true (by rw [mX, h])))
        have HY := hidden (fun v : Bool => fun (h : z.first q = v) => (show decide ((q : Int) ∈ spI Y) = v from by cases v; exact decide_eq_false (by rw [mY, h]; decide); exact decide_eq_true (by rw [mY, h])))
        have HND := hidden (show D (k + 1) = (x.last p && z.first q) by rw [HNEW.out]; simp [pq])
        clear hsub hdk hX hY mX mY HNEW hj hjk hB hy
        generalize spI X = SX at *
        generalize spI Y = SY at *
        generalize x.last p = u at *
        generalize z.first q = v at *
        cases u
        case false =>
          go_wp2_with fail
          rw [← HNN.out]
          refine (HBB.out _ (HLY.out.below HB.out)).mono ?_
          rintro e w7 ⟨rfl, rfl⟩
          rw [HNN.out]
          go_wp2_with fail
          rw [← HNN.out]
          refine (HTX.out _ (HLY.out.below HB.out)).mono ?_
          rintro e w1X ⟨vX, rfl, hrX, hbX⟩
          have HBX := hidden (below_after HB.out hbX)
          have HHX := hidden (has10_calls (B := w1X.heap.size) w1X vX _ (p : Int) hrX.reads)
          obtain ⟨aX, cX, rfl⟩ := hrX.form
          rw [HNN.out]
          clear hrX hbX
          go_wp2_with fail
          refine HHX.out.mono ?_
          rintro e w2X ⟨rfl, hbX⟩
          have HCX := hidden (below_after HBX.out hbX)
          rw [HX.out false rfl]
          clear hbX
          have HD1 := hidden (show D (k + 1) = false by rw [HND.out]; rfl)
          go_wp2
          go_roundw
          case rel => exact ⟨k + 1, by omega, by go_num, HD1, HCX.out⟩
          case measure => simp [Go.RowKit.intOf]; omega
        case true =>
          cases v
          case false =>
            go_wp2_with fail
            rw [← HNN.out]
            refine (HBB.out _ (HLY.out.below HB.out)).mono ?_
            rintro e w7 ⟨rfl, rfl⟩
            rw [HNN.out]
            go_wp2_with fail
            rw [← HNN.out]
            refine (HTX.out _ (HLY.out.below HB.out)).mono ?_
            rintro e w1X ⟨vX, rfl, hrX, hbX⟩
            have HBX := hidden (below_after HB.out hbX)
            have HHX := hidden (has10_calls (B := w1X.heap.size) w1X vX _ (p : Int) hrX.reads)
            obtain ⟨aX, cX, rfl⟩ := hrX.form
            rw [HNN.out]
            clear hrX hbX
            go_wp2_with fail
            refine HHX.out.mono ?_
            rintro e w2X ⟨rfl, hbX⟩
            have HCX := hidden (below_after HBX.out hbX)
            rw [HX.out true rfl]
            clear hbX
            go_wp2_with fail
            rw [← HNN.out]
            refine (HTY.out _ (HLY.out.below HCX.out)).mono ?_
            rintro e w1Y ⟨vY, rfl, hrY, hbY⟩
            have HBY := hidden (below_after HCX.out hbY)
            have HHY := hidden (has10_calls (B := w1Y.heap.size) w1Y vY _ (q : Int) hrY.reads)
            obtain ⟨aY, cY, rfl⟩ := hrY.form
            rw [HNN.out]
            clear hrY hbY
            go_wp2_with fail
            refine HHY.out.mono ?_
            rintro e w2Y ⟨rfl, hbY⟩
            have HCY := hidden (below_after HBY.out hbY)
            rw [HY.out false rfl]
            clear hbY
            have HD1 := hidden (show D (k + 1) = false by rw [HND.out]; rfl)
            go_wp2
            go_roundw
            case rel => exact ⟨k + 1, by omega, by go_num, HD1, HCY.out⟩
            case measure => simp [Go.RowKit.intOf]; omega
          case true =>
            go_wp2_with fail
            rw [← HNN.out]
            refine (HBB.out _ (HLY.out.below HB.out)).mono ?_
            rintro e w7 ⟨rfl, rfl⟩
            rw [HNN.out]
            go_wp2_with fail
            rw [← HNN.out]
            refine (HTX.out _ (HLY.out.below HB.out)).mono ?_
            rintro e w1X ⟨vX, rfl, hrX, hbX⟩
            have HBX := hidden (below_after HB.out hbX)
            have HHX := hidden (has10_calls (B := w1X.heap.size) w1X vX _ (p : Int) hrX.reads)
            obtain ⟨aX, cX, rfl⟩ := hrX.form
            rw [HNN.out]
            clear hrX hbX
            go_wp2_with fail
            refine HHX.out.mono ?_
            rintro e w2X ⟨rfl, hbX⟩
            have HCX := hidden (below_after HBX.out hbX)
            rw [HX.out true rfl]
            clear hbX
            go_wp2_with fail
            rw [← HNN.out]
            refine (HTY.out _ (HLY.out.below HCX.out)).mono ?_
            rintro e w1Y ⟨vY, rfl, hrY, hbY⟩
            have HBY := hidden (below_after HCX.out hbY)
            have HHY := hidden (has10_calls (B := w1Y.heap.size) w1Y vY _ (q : Int) hrY.reads)
            obtain ⟨aY, cY, rfl⟩ := hrY.form
            rw [HNN.out]
            clear hrY hbY
            go_wp2_with fail
            refine HHY.out.mono ?_
            rintro e w2Y ⟨rfl, hbY⟩
            have HCY := hidden (below_after HBY.out hbY)
            rw [HY.out true rfl]
            clear hbY
            have HR := hidden (HE.out.symm.trans (HUP.out (k + 1) (by omega) (by rw [HND.out]; rfl)))
            go_wp2
            go_ret
            exact ⟨ret_b HR.out.symm, HCY.out⟩
    · obtain rfl : k = n := by omega
      have HR := hidden (HE.out.symm.trans hdk.out)
      clear hdk
      go_wp2
      go_ret
      exact ⟨ret_b HR.out.symm, HB.out⟩
end Go.Proofs.Ytgaadndhecokfaa

/- Contracts of the reference's First, Last, Free and Follow. -/
namespace Go.Proofs.Ytgaadndhecokfaa
open Go.RowKit Go.Lib Go.Joins
theorem elems_none : elems fNone = [] := by
  refine nup_ext (elems_up _) .nil fun p => ?_
  rw [elems_mem]
  simp [fNone]
theorem sl_lay {C : Nat → Prop} {v : Value} {L : List Stp} {w : World} (h : SlX C w v L) (hC : ∀ b, C b → b < w.heap.size) (hpos : 0 < L.length) : ∃ b off cap, v = .slice (some ⟨b, off, none⟩) L.length cap ∧ Lay b off L w ∧ L.length ≤ cap ∧ cap ≤ maxLen := by
  obtain ⟨a, cap, rfl, h1, h2, _, hS⟩ := h
  obtain ⟨b, off, rfl, hCb, hc⟩ := hS.2 hpos
  exact ⟨b, off, cap, rfl, ⟨hC b hCb, hc⟩, h1, h2⟩
theorem expr_plc {L : List Stp} (hz : (measV L).2 = 0) (hwd : ∀ s ∈ L, s.wide) : plc (treeE L) ≤ 256 ∧ (sets L).length = plc (treeE L) := by
  obtain ⟨h512, hE⟩ := meas_expr hz
  obtain ⟨hone, hok, hops⟩ := tree_of hE hwd
  have h1 := plc_ops (treeE L)
  have h2 := sets_ops (treeE L) hok
  rw [hops] at h1 h2
  exact ⟨by omega, h2⟩
set_option maxHeartbeats 2000000 in
set_option maxRecDepth 100000 in
theorem rFirst_calls {C : Nat → Prop} {v : Value} {L : List Stp} {w : World} (h : SlX C w v L) (hC : ∀ b, C b → b < w.heap.size) (hwd : ∀ s ∈ L, s.wide) : Calls Try.prog 44 #[v] w (RetZ w (spI (elems (prtL L).first))) := by
  have HK := hidden (rcheck_slX h)
  by_cases hz : (measV L).2 = 0
  · obtain ⟨h512, hE⟩ := meas_expr hz
    obtain ⟨hone, hok, hops⟩ := tree_of hE hwd
    have hpos := expr_ne hE
    obtain ⟨b, off, cap, rfl, hL, hc, hm⟩ := sl_lay h hC hpos
    have HE := hidden (show TellZ b off cap L false (L.length - 1) (spI (elems (prtL L).first)) from by
      have h1 := rends (b := b) (off := off) (cap := cap) false h512 hc hm (treeE L) hok [] [] (L.length - 1) (by rw [hops]; simp) (by rw [hops]; simp; omega)
      have h2 : elems (prtL L).first = endE false (treeE L) (sets []).length := by
        unfold prtL
        rw [if_pos hz]
        exact endE_elems (last := false) (by have := (expr_plc hz hwd).1; omega)
      rw [h2]
      exact h1)
    have HL := hidden hL
    have hsub : IntKind.i64.wrap ((L.length : Int) - 1) = ((L.length - 1 : Nat) : Int) := by rw [IntKind.wrap_i64]; omega
    rw [hz] at HK
    generalize hR : spI (elems (prtL L).first) = R at *
    obtain ⟨j, hj⟩ : ∃ j, j = L.length - 1 := ⟨_, rfl⟩
    rw [← hj] at hsub HE
    obtain ⟨n, hn⟩ : ∃ n, n = L.length := ⟨_, rfl⟩
    have HNN := hidden hn.symm
    rw [← hn] at hsub HK ⊢
    clear h hC hwd hE hone hok hops hpos hL hR hn hj hz hc hm h512
    go_enter Try.func44, Try.ntmps44
    go_wp2_with fail
    refine HK.out.mono ?_
    rintro e w1 ⟨rfl, rfl⟩
    go_wp2_with fail
    rw [← HNN.out]
    refine (HE.out w HL.out).mono ?_
    rintro e w1 ⟨u, rfl, hr, hb⟩
    go_wp2
    go_ret
    exact ⟨_, rfl, hr, hb⟩
  · have hR : spI (elems (prtL L).first) = [] := by
      unfold prtL
      rw [if_neg hz, elems_none, spI_nil]
    rw [hR]
    have HR := hidden (RowZ.lit w w.heap.size rfl #[] rfl)
    have HB := hidden ((Below.refl w.heap.size w).alloc (Nat.le_refl _) (.cells #[] 3))
    have hne : ((measV L).2 != 0) = true := by simpa using hz
    obtain ⟨a, cap, rfl, _⟩ := h
    generalize (measV L).2 = m at *
    clear hC hwd hz hR
    go_enter Try.func44, Try.ntmps44
    go_wp2_with fail
    refine HK.out.mono ?_
    rintro e w1 ⟨rfl, rfl⟩
    go_wp2
    go_ret
    exact ⟨_, rfl, HR.out, HB.out⟩
set_option maxHeartbeats 2000000 in
set_option maxRecDepth 100000 in
theorem rLast_calls {C : Nat → Prop} {v : Value} {L : List Stp} {w : World} (h : SlX C w v L) (hC : ∀ b, C b → b < w.heap.size) (hwd : ∀ s ∈ L, s.wide) : Calls Try.prog 40 #[v] w (RetZ w (spI (elems (prtL L).last))) := by
  have HK := hidden (rcheck_slX h)
  by_cases hz : (measV L).2 = 0
  · obtain ⟨h512, hE⟩ := meas_expr hz
    obtain ⟨hone, hok, hops⟩ := tree_of hE hwd
    have hpos := expr_ne hE
    obtain ⟨b, off, cap, rfl, hL, hc, hm⟩ := sl_lay h hC hpos
    have HE := hidden (show TellZ b off cap L true (L.length - 1) (spI (elems (prtL L).last)) from by
      have h1 := rends (b := b) (off := off) (cap := cap) true h512 hc hm (treeE L) hok [] [] (L.length - 1) (by rw [hops]; simp) (by rw [hops]; simp; omega)
      have h2 : elems (prtL L).last = endE true (treeE L) (sets []).length := by
        unfold prtL
        rw [if_pos hz]
        exact endE_elems (last := true) (by have := (expr_plc hz hwd).1; omega)
      rw [h2]
      exact h1)
    have HL := hidden hL
    have hsub : IntKind.i64.wrap ((L.length : Int) - 1) = ((L.length - 1 : Nat) : Int) := by rw [IntKind.wrap_i64]; omega
    rw [hz] at HK
    generalize hR : spI (elems (prtL L).last) = R at *
    obtain ⟨j, hj⟩ : ∃ j, j = L.length - 1 := ⟨_, rfl⟩
    rw [← hj] at hsub HE
    obtain ⟨n, hn⟩ : ∃ n, n = L.length := ⟨_, rfl⟩
    have HNN := hidden hn.symm
    rw [← hn] at hsub HK ⊢
    clear h hC hwd hE hone hok hops hpos hL hR hn hj hz hc hm h512
    go_enter Try.func40, Try.ntmps40
    go_wp2_with fail
    refine HK.out.mono ?_
    rintro e w1 ⟨rfl, rfl⟩
    go_wp2_with fail
    rw [← HNN.out]
    refine (HE.out w HL.out).mono ?_
    rintro e w1 ⟨u, rfl, hr, hb⟩
    go_wp2
    go_ret
    exact ⟨_, rfl, hr, hb⟩
  · have hR : spI (elems (prtL L).last) = [] := by
      unfold prtL
      rw [if_neg hz, elems_none, spI_nil]
    rw [hR]
    have HR := hidden (RowZ.lit w w.heap.size rfl #[] rfl)
    have HB := hidden ((Below.refl w.heap.size w).alloc (Nat.le_refl _) (.cells #[] 3))
    have hne : ((measV L).2 != 0) = true := by simpa using hz
    obtain ⟨a, cap, rfl, _⟩ := h
    generalize (measV L).2 = m at *
    clear hC hwd hz hR
    go_enter Try.func40, Try.ntmps40
    go_wp2_with fail
    refine HK.out.mono ?_
    rintro e w1 ⟨rfl, rfl⟩
    go_wp2
    go_ret
    exact ⟨_, rfl, HR.out, HB.out⟩
/-- those below m that are hit -/
def hits (G : Nat → Bool) (m : Nat) : List Nat := (List.range m).filter G
theorem hits_more (G : Nat → Bool) (m : Nat) : hits G (m + 1) = if G m = true then hits G m ++ [m] else hits G m := by
  unfold hits
  rw [List.range_succ, List.filter_append]
  cases h : G m <;> simp [h]
theorem hits_len (G : Nat → Bool) (m : Nat) : (hits G m).length ≤ m := Nat.le_trans (List.length_filter_le _ _) (by simp)
theorem hits_zero (G : Nat → Bool) : hits G 0 = [] := rfl
set_option maxHeartbeats 4000000 in
set_option maxRecDepth 100000 in
theorem rfollow_gen {a : Option Addr} {n cap : Nat} {w : World} {i : Int} {S : List Stp} {F : Nat → Nat → Bool} {m : Nat} (hm : m = S.length) (hm2 : m ≤ 1000)
    (HS : ∀ w', Below w.heap.size w w' → Calls Try.prog 39 #[.slice a n cap] w' (RetS w' S))
    (HF : ∀ w', Below w.heap.size w w' → ∀ p q : Nat, p < m → q < m → Calls Try.prog 58 #[.slice a n cap, .int .i64 p, .int .i64 q] w' fun e w'' => e = .returned (.bool (F p q)) ∧ Below w'.heap.size w' w'') :
    Calls Try.prog 43 #[.slice a n cap, .int .i64 i] w (RetZ w (spI (hits (fun q => decide (0 ≤ i ∧ i < m) && F i.toNat q) m))) := by
  have hb0 := (Below.refl w.heap.size w).alloc (Nat.le_refl _) (.cells #[] 3)
  have HN := hidden (RowZ.lit w w.heap.size rfl #[] rfl)
  have HB0 := hidden hb0
  have HS0 := hidden (HS _ hb0)
  have HFF := hidden HF
  obtain ⟨P, hP⟩ : ∃ P : Nat → List Nat, P = hits (fun q => decide (0 ≤ i ∧ i < m) && F i.toNat q) := ⟨_, rfl⟩
  have H0 := hidden (show spI (P 0) = [] by rw [hP, hits_zero, spI_nil])
  have HLN := hidden (fun k => (show (spI (P k)).length ≤ k by rw [hP, spI_len]; exact hits_len _ k))
  have HT := hidden (fun k => (show spI (P (k + 1)) = if (decide (0 ≤ i ∧ i < m) && F i.toNat k) = true then spI (P k) ++ [(k : Int)] else spI (P k) by
    rw [hP, hits_more]
    split
    · rw [spI_more]
    · rfl))
  rw [show hits (fun q => decide (0 ≤ i ∧ i < m) && F i.toNat q) = P from hP.symm]
  clear HS HF hb0 hP
  go_enter Try.func43, Try.ntmps43
  go_wp2_with fail
  refine HS0.out.mono ?_
  rintro e w1 ⟨u, rfl, hr, hb⟩
  have HB1 := hidden (below_then HB0.out HB0.out.size hb)
  have HN1 := hidden (HN.out.kept hb)
  have hu : ∃ a' c', u = .slice a' m c' := by
    rcases ownsRow_forms hr with ⟨rfl, h⟩ | ⟨g, c, rfl⟩
    · exact ⟨none, 0, by rw [hm, h]⟩
    · exact ⟨some ⟨g, 0, none⟩, c, by rw [hm]⟩
  obtain ⟨a', c', rfl⟩ := hu
  clear hr hb hm
  go_wp2
  go_loopw [5, 7] (fun v j wr => ∃ (k : Nat) (o : Value), k ≤ m ∧ o = v ∧ j = .int .i64 k ∧ RowZ wr w.heap.size o (spI (P k)) ∧ Below w.heap.size w wr) (fun _ j _ => m - (Go.RowKit.intOf j).toNat)
  case atStart => exact ⟨0, _, by omega, rfl, rfl, by rw [H0.out]; exact HN1.out, HB1.out⟩
  case round =>
    obtain ⟨k, o, hk, rfl, rfl, hG, hb⟩ := hrel
    have HG := hidden hG
    have HB := hidden hb
    have hsz := hb.size
    clear hG hb
    by_cases hlt : k < m
    · have HTK := hidden (HT.out k)
      have hln := HLN.out k
      obtain ⟨q, hq⟩ : ∃ q, q = (spI (P k)).length := ⟨_, rfl⟩
      rw [← hq] at hln
      have HM := hidden hq.symm
      have hlt' := hlt
      clear hq
      by_cases hi : 0 ≤ i ∧ i < m
      · obtain ⟨p, rfl⟩ : ∃ p : Nat, i = p := ⟨i.toNat, by omega⟩
        have HC := hidden (HFF.out wr HB.out p k (by omega) hlt)
        have hd0 : decide (0 ≤ (p : Int)) = true := decide_eq_true hi.1
        have hd1 : decide ((p : Int) < (m : Int)) = true := decide_eq_true hi.2
        have hd2 : decide (p < m) = true := decide_eq_true (by omega)
        have HD := hidden (show decide (0 ≤ (p : Int) ∧ (p : Int) < m) = true from decide_eq_true hi)
        rw [HD.out, Bool.true_and, Int.toNat_natCast] at HTK
        clear hi
        generalize F p k = f at *
        cases f
        · have HR := hidden (show spI (P (k + 1)) = spI (P k) by rw [HTK.out]; rfl)
          go_wp2_with fail
          refine HC.out.mono ?_
          rintro e w2 ⟨rfl, hb2⟩
          have HB2 := hidden (below_after HB.out hb2)
          have HG2 := hidden (HG.out.kept hb2)
          clear hb2
          go_wp2
          go_roundw
          case rel => exact ⟨k + 1, _, by omega, rfl, by go_num, by rw [HR.out]; exact HG2.out, HB2.out⟩
          case measure => simp [Go.RowKit.intOf]; omega
        · have HR := hidden (show spI (P (k + 1)) = spI (P k) ++ [(k : Int)] by rw [HTK.out]; rfl)
          go_wp2_with fail
          refine HC.out.mono ?_
          rintro e w2 ⟨rfl, hb2⟩
          have HB2 := hidden (below_after HB.out hb2)
          have HG2 := hidden ((HG.out.kept hb2).kept ((Below.refl w2.heap.size w2).alloc (Nat.le_refl _) (.cells #[.int .i64 (k : Int)] 3)))
          have HBA := hidden (HB2.out.alloc HB2.out.size (.cells #[.int .i64 (k : Int)] 3))
          clear hb2
          go_wp2_with (at_builtin; refine app_z rfl _ _ rfl rfl HG2.out rfl (heap_alloc_new w2 _) HM.out (by omega) HBA.out.size ?_; intro g' c3 w3 hr3 hg3 hb3; have HR3 := hidden hr3; have HB3 := hidden (HBA.out.trans hb3); clear hr3 hg3 hb3)
          go_roundw
          case rel => exact ⟨k + 1, _, by omega, rfl, by go_num, by rw [HR.out]; exact HR3.out, HB3.out⟩
          case measure => simp [Go.RowKit.intOf]; omega
      · have HD := hidden (show decide (0 ≤ i ∧ i < m) = false from decide_eq_false hi)
        have HR := hidden (show spI (P (k + 1)) = spI (P k) by rw [HTK.out, HD.out]; rfl)
        by_cases h0 : 0 ≤ i
        · have hd0 : decide (0 ≤ i) = true := decide_eq_true h0
          have hd1 : decide (i < (m : Int)) = false := decide_eq_false (by omega)
          clear hi h0
          go_wp2
          go_roundw
          case rel => exact ⟨k + 1, _, by omega, rfl, by go_num, by rw [HR.out]; exact HG.out, HB.out⟩
          case measure => simp [Go.RowKit.intOf]; omega
        · have hd0 : decide (0 ≤ i) = false := decide_eq_false h0
          clear hi h0
          go_wp2
          go_roundw
          case rel => exact ⟨k + 1, _, by omega, rfl, by go_num, by rw [HR.out]; exact HG.out, HB.out⟩
          case measure => simp [Go.RowKit.intOf]; omega
    · have e : k = m := by omega
      subst e
      go_wp2
      go_ret
      exact ⟨_, rfl, HG.out, HB.out⟩
theorem folL_elems {L : List Stp} {i : Int} (hz : (measV L).2 = 0) (hwd : ∀ s ∈ L, s.wide) : elems (folL i L) = hits (fun q => decide (0 ≤ i ∧ i < (plc (treeE L) : Nat)) && (met (treeE L) 0).any (pq i.toNat q)) (plc (treeE L)) := by
  have hp := (expr_plc hz hwd).1
  refine nup_ext (elems_up _) (List.Pairwise.filter _ List.pairwise_lt_range) fun q => ?_
  rw [elems_mem]
  unfold hits folL
  rw [if_pos hz]
  simp only [List.mem_filter, List.mem_range, Bool.and_eq_true, decide_eq_true_eq]
  by_cases h256 : 0 ≤ i ∧ i < 256
  · obtain ⟨p, rfl⟩ : ∃ p : Nat, i = p := ⟨i.toNat, by omega⟩
    rw [folG_all p (by omega), Int.toNat_natCast]
    have e : (met (treeE L) 0).any (pq p q) = gE (treeE L) 0 p q := met_iff (treeE L) 0 p q
    have e2 : ((met (treeE L) 0).any fun x => x.1.last p && x.2.first q) = gE (treeE L) 0 p q := met_iff (treeE L) 0 p q
    rw [e, e2]
    simp only [fNone, Bool.false_or]
    constructor
    · rintro ⟨_, h⟩
      have := gE_in _ _ _ _ h
      exact ⟨by omega, ⟨by omega, by omega⟩, h⟩
    · rintro ⟨h1, _, h⟩
      exact ⟨by omega, h⟩
  · have key : ∀ (D : List (Prt × Prt)) (G : Nat → Bool), D.foldl (fun G x => folG i G x.1 x.2) G = G := fun D => by
      induction D with
      | nil => intro G; rfl
      | cons x r ih => intro G; rw [List.foldl_cons, ih, folG_out i h256]
    rw [key]
    simp only [fNone]
    constructor
    · rintro ⟨_, h⟩; cases h
    · rintro ⟨_, ⟨h1, h2⟩, _⟩; omega
theorem rFollow_calls {C : Nat → Prop} {v : Value} {L : List Stp} {w : World} (i : Int) (h : SlX C w v L) (hC : ∀ b, C b → b < w.heap.size) (hwd : ∀ s ∈ L, s.wide) : Calls Try.prog 43 #[v, .int .i64 i] w (RetZ w (spI (elems (folL i L)))) := by
  by_cases hz : (measV L).2 = 0
  · obtain ⟨h512, hE⟩ := meas_expr hz
    have hpos := expr_ne hE
    obtain ⟨hp, hsl⟩ := expr_plc hz hwd
    rw [folL_elems hz hwd]
    obtain ⟨b, off, cap, rfl, hL, hc, hm⟩ := sl_lay h hC hpos
    refine rfollow_gen (S := sets L) hsl.symm (by omega) (fun w' hb => ?_) (fun w' hb p q _ _ => rfollows_calls p q (hL.below hb) hz hwd hc hm)
    exact rsets_calls ((hL.below hb).sl hc hm) (fun b hb => hb) hz h512
  · have e : elems (folL i L) = hits (fun q => decide (0 ≤ i ∧ i < (0 : Nat)) && false) 0 := by
      unfold folL
      rw [if_neg hz, elems_none]
      rfl
    rw [e]
    have h' := fun w' (hb : Below w.heap.size w w') => rsets_none (h.below (C' := fun b => b < w'.heap.size) (w' := w') fun b hb' => ⟨by have := hb.size; have := hC b hb'; omega, hb.block b (hC b hb')⟩) (fun b hb => hb) hz
    obtain ⟨a, cap, rfl, _⟩ := h
    exact rfollow_gen (F := fun _ _ => false) (S := []) rfl (by omega) h' (fun w' hb p q hp _ => by omega)
end Go.Proofs.Ytgaadndhecokfaa

/- What every statement of stage 10 knows besides: the chapter's example. -/
namespace Go.Proofs.Ytgaadndhecokfaa
open Go.RowKit Go.Lib Go.Joins
end Go.Proofs.Ytgaadndhecokfaa
