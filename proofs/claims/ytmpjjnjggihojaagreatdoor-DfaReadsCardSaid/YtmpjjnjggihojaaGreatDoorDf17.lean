/- SpRdN, SpAsk, SpRSets, SpFols, put together. -/
import Derived.Test.YtmpjjnjggihojaaGreatDoorDf11
import Derived.Test.YtmpjjnjggihojaaGreatDoorDf06
import Derived.Test.YtmpjjnjggihojaaGreatDoorDf16
import Derived.Test.YtmpjjnjggihojaaGreatDoorDf09
import Derived.Test.YtmpjjnjggihojaaGreatDoorDf07
import Derived.Test.YtmpjjnjggihojaaGreatDoorDf12
import Derived.Test.YtmpjjnjggihojaaGreatDoorDf04
/- read of what is no expression. -/
namespace Go.Proofs.YtmpjjnjggihojaaGreatDoor
open Go.RowKit Go.Lib Go.Joins
attribute [local go_sem] evalR_tmp evalR_const evalR_global evalR_func
end Go.Proofs.YtmpjjnjggihojaaGreatDoor

/- Contracts of whole, First, Last, Free and Follow. -/
namespace Go.Proofs.YtmpjjnjggihojaaGreatDoor
open Go.RowKit Go.Lib Go.Joins
/-- what is known of a list of steps as a whole -/
def prtL (L : List Stp) : Prt := if (measV L).2 = 0 then prtE (treeE L) 0 else ⟨fNone, fNone, false⟩
/-- what follows a number, in a list of steps -/
def folL (i : Int) (L : List Stp) : Nat → Bool := if (measV L).2 = 0 then (met (treeE L) 0).foldl (fun G x => folG i G x.1 x.2) fNone else fNone
end Go.Proofs.YtmpjjnjggihojaaGreatDoor

/- Contract of the reference's Sets. -/
namespace Go.Proofs.YtmpjjnjggihojaaGreatDoor
open Go.RowKit Go.Lib Go.Joins
theorem RowS.lit (w : World) (b : Nat) (hb : b = w.heap.size) (cur : Array Value) (hc : cur = #[]) : RowS (w.alloc (.cells cur 74)) w.heap.size (.slice (some ⟨b, 0, none⟩) 0 0) [] := by
  subst hb hc
  exact World.ownsRow_lit (e := 74) (size := 4) w #[] 0 (Nat.le_refl _) (by decide) rfl
attribute [local irreducible] sets
set_option maxHeartbeats 4000000 in
set_option maxRecDepth 100000 in
theorem rsets_none {C : Nat → Prop} {v : Value} {L : List Stp} {w : World} (h : SlX C w v L) (hC : ∀ b, C b → b < w.heap.size) (hz : (measV L).2 ≠ 0) : Calls Tryz.prog 42 #[v] w (RetS w []) := by
  have hb0 := (Below.refl w.heap.size w).alloc (Nat.le_refl _) (.cells #[] 74)
  have HK := hidden (rcheck_slX (h.below (C' := fun b => b < w.heap.size) (w' := w.alloc (.cells #[] 74)) fun b hb => ⟨hC b hb, hb0.block b (hC b hb)⟩))
  have HN := hidden (RowS.lit w _ rfl #[] rfl)
  obtain ⟨a, cap, rfl, _⟩ := h
  generalize (measV L).2 = r at *
  have hne : (r != 0) = true := by simpa using hz
  have HB := hidden hb0
  clear hC hb0
  go_enter Tryz.func42, Tryz.ntmps42
  go_wp2_with fail
  refine HK.out.mono ?_
  rintro e w1 ⟨rfl, rfl⟩
  go_wp2
  go_ret
  exact ⟨_, rfl, HN.out, HB.out⟩
set_option maxHeartbeats 4000000 in
set_option maxRecDepth 100000 in
theorem rsets_calls {C : Nat → Prop} {v : Value} {L : List Stp} {w : World} (h : SlX C w v L) (hC : ∀ b, C b → b < w.heap.size) (hz : (measV L).2 = 0) (hl : L.length ≤ 512) : Calls Tryz.prog 42 #[v] w (RetS w (sets L)) := by
  have hb0 := (Below.refl w.heap.size w).alloc (Nat.le_refl _) (.cells #[] 74)
  have HK := hidden (rcheck_slX (h.below (C' := fun b => b < w.heap.size) (w' := w.alloc (.cells #[] 74)) fun b hb => ⟨hC b hb, hb0.block b (hC b hb)⟩))
  rw [hz] at HK
  have HN := hidden (RowS.lit w _ rfl #[] rfl)
  have HB0 := hidden hb0
  have hpos := expr_ne (meas_expr hz).2
  obtain ⟨a, cap, rfl, hcap, hmax, _, hS⟩ := h
  obtain ⟨b, off, rfl, hCb, hc⟩ := hS.2 hpos
  have hbl := hC b hCb
  have HC := hidden (fun W2 (hW2 : Below w.heap.size w W2) k (hk : k < L.length) => (hc k hk).kept (w' := W2) (hW2.block b hbl))
  have HT := hidden (fun k (h : k < L.length) => sets_take h)
  have HLN := hidden (fun k => sets_len L k)
  have HE := hidden (show sets (L.take L.length) = sets L by rw [List.take_length])
  have H0 := hidden (show sets (L.take 0) = [] by unfold sets; rfl)
  obtain ⟨n, hn⟩ : ∃ n, n = L.length := ⟨_, rfl⟩
  rw [← hn] at HC HT HE hcap hl hpos HK ⊢
  unfold maxLen at hmax
  clear hC hS hc hn hz hb0
  go_enter Tryz.func42, Tryz.ntmps42
  go_wp2_with fail
  refine HK.out.mono ?_
  rintro e w1 ⟨rfl, rfl⟩
  go_wp2
  go_loopw [3, 4] (fun v i wr => ∃ (k : Nat) (o : Value), k ≤ n ∧ o = v ∧ i = .int .i64 k ∧ RowS wr w.heap.size o (sets (L.take k)) ∧ Below w.heap.size w wr) (fun _ i _ => n - (intOf i).toNat)
  case atStart => exact ⟨0, _, by omega, rfl, rfl, by rw [H0.out]; exact HN.out, HB0.out⟩
  case round =>
    obtain ⟨k, o, hk, rfl, rfl, hG, hb⟩ := hrel
    have HG := hidden hG
    have HB := hidden hb
    have hsz := hb.size
    by_cases hlt : k < n
    · obtain ⟨c0, c1, c2, c3, c4⟩ := HC.out wr hb k hlt
      have HTK := hidden (HT.out k hlt)
      have hln := HLN.out k
      generalize hst : L.getD k default = s at *
      obtain ⟨sk, sa, sb, sc, sd⟩ := s
      dsimp only at *
      have hbr : b < wr.heap.size := by omega
      obtain ⟨m, hm⟩ : ∃ m, m = (sets (L.take k)).length := ⟨_, rfl⟩
      rw [← hm] at hln
      have HM := hidden hm.symm
      clear hG hb hst hm
      by_cases h1 : sk = 1
      · subst h1
        have HR := hidden (show sets (L.take (k + 1)) = sets (L.take k) ++ [⟨1, sa, sb, sc, sd⟩] by rw [HTK.out]; rfl)
        have HA := hidden (HG.out.kept ((Below.refl wr.heap.size wr).alloc (Nat.le_refl _) (.cells #[.int .u64 sa, .int .u64 sb, .int .u64 sc, .int .u64 sd] 74)))
        have HBA := hidden (HB.out.alloc hsz (.cells #[.int .u64 sa, .int .u64 sb, .int .u64 sc, .int .u64 sd] 74))
        clear HTK
        go_wp2_with (at_builtin; refine app_s (z := ⟨1, sa, sb, sc, sd⟩) rfl _ _ rfl rfl HA.out rfl (heap_alloc_new wr _) HM.out (by omega) (by simp; omega) ?_; intro g' c' w3 hr3 hg3 hb3; have HR3 := hidden hr3; have HB3 := hidden (HBA.out.trans hb3); clear hr3 hg3 hb3)
        go_roundw
        case rel => exact ⟨k + 1, _, by omega, rfl, by go_num, by rw [HR.out]; exact HR3.out, HB3.out⟩
        case measure => simp [intOf]; omega
      · have HR := hidden (show sets (L.take (k + 1)) = sets (L.take k) by rw [HTK.out, if_neg h1])
        have hq : (sk == 1) = false := by simpa using h1
        clear HTK
        go_wp2
        go_roundw
        case rel => exact ⟨k + 1, _, by omega, rfl, by go_num, by rw [HR.out]; exact HG.out, HB.out⟩
        case measure => simp [intOf]; omega
    · have e : k = n := by omega
      subst e
      clear hG hb
      go_wp2
      go_ret
      rw [HE.out] at HG
      exact ⟨_, rfl, HG.out, HB.out⟩
end Go.Proofs.YtmpjjnjggihojaaGreatDoor

/- Contracts of the reference's follows, First, Last, Free and Follow. -/
namespace Go.Proofs.YtmpjjnjggihojaaGreatDoor
open Go.RowKit Go.Lib Go.Joins
theorem sets_flat : ∀ (r : List Ex), (∀ e ∈ r, e.ok) → (sets (r.flatMap ops)).length = plcs r
  | [], _ => rfl
  | e :: r, h => by
    rw [List.flatMap_cons, sets_append, List.length_append, sets_ops e (h e (by simp)), sets_flat r fun x hx => h x (by simp [hx])]
    rfl
theorem mem_spI (p : Nat) (X : List Nat) : ((p : Int) ∈ spI X) ↔ p ∈ X := by
  unfold spI
  rw [List.mem_map]
  exact ⟨fun ⟨a, h, e⟩ => by rw [show p = a by omega]; exact h, fun h => ⟨p, h, rfl⟩⟩
/-- what one step adds, as the reference finds it -/
inductive Fst (b off cap : Nat) (L : List Stp) (k : Nat) (kd : Int) : List (Prt × Prt) → Prop
  | skip (h : kd ≠ 3 ∧ kd ≠ 5 ∧ kd ≠ 6) : Fst b off cap L k kd []
  | rep (h : kd = 5 ∨ kd = 6) (j : Nat) (hj : j + 1 = k) (X Y : List Nat) (x : Prt) (hX : TellZ b off cap L true j (spI X)) (hY : TellZ b off cap L false j (spI Y)) (mX : ∀ p : Nat, ((p : Int) ∈ spI X) ↔ x.last p = true) (mY : ∀ p : Nat, ((p : Int) ∈ spI Y) ↔ x.first p = true) : Fst b off cap L k kd [(x, x)]
  | cat (h : kd = 3) (j y l : Nat) (hj : j + 1 = k) (hy : l + 1 = y) (hy1 : y ≤ 1000) (hB : Begins b off cap L j y) (X Y : List Nat) (x z : Prt) (hX : TellZ b off cap L true l (spI X)) (hY : TellZ b off cap L false j (spI Y)) (mX : ∀ p : Nat, ((p : Int) ∈ spI X) ↔ x.last p = true) (mY : ∀ p : Nat, ((p : Int) ∈ spI Y) ↔ z.first p = true) : Fst b off cap L k kd [(x, z)]
theorem fst_of {b off cap : Nat} {L : List Stp} {k : Nat} (hk : k < L.length) (hE : Expr L) (hwd : ∀ s ∈ L, s.wide) (hl : L.length ≤ 512) (hc : L.length ≤ cap) (hm : cap ≤ maxLen) : ∃ new, fMet (trees L (k + 1)) 0 = fMet (trees L k) 0 ++ new ∧ Fst b off cap L k (L.getD k default).k new := by
  have hF := forms_at hE.1 hwd k (by omega)
  obtain ⟨hN, _⟩ := next_of hk hE.1 hwd hF
  have hsp : L = L.take k ++ L.drop k := (List.take_append_drop k L).symm
  have hlen : (L.take k).length = k := by rw [List.length_take]; omega
  generalize hT : trees L k = T at *
  generalize hT' : trees L (k + 1) = T' at *
  generalize hs : L.getD k default = s at *
  have mL : ∀ (e : Ex) (n p : Nat), ((p : Int) ∈ spI (endE true e n)) ↔ gL e n p = true := fun e n p => by rw [mem_spI, endE_mem]; rfl
  have mF : ∀ (e : Ex) (n p : Nat), ((p : Int) ∈ spI (endE false e n)) ↔ gF e n p = true := fun e n p => by rw [mem_spI, endE_mem]; rfl
  cases hN with
  | set _ h e => exact ⟨[], by rw [fMet_one]; simp [met], .skip (by omega)⟩
  | emp _ e => exact ⟨[], by rw [fMet_one]; simp [met], .skip (by rw [e]; simp [kStp])⟩
  | alt r a c e =>
    refine ⟨[], ?_, .skip (by rw [e]; simp [kStp])⟩
    rw [fMet_one, fMet_two]
    simp [met]
  | un r a e h =>
    obtain ⟨h1, h2⟩ := hF
    rw [List.flatMap_append, List.flatMap_cons, List.flatMap_nil, List.append_nil] at h1
    have ha := h2 a (by simp)
    have hp := ops_pos a
    have hsr := sets_flat r fun x hx => h2 x (by simp [hx])
    have hL : L = r.flatMap ops ++ ops a ++ L.drop k := by rw [h1]; exact hsp
    have hk2 : (r.flatMap ops).length + (ops a).length = k := by
      have := congrArg List.length h1
      rw [List.length_append, hlen] at this
      omega
    have hi : k - 1 + 1 = (r.flatMap ops).length + (ops a).length := by omega
    by_cases h7 : s.k = 7
    · refine ⟨[], ?_, .skip (by omega)⟩
      rw [fMet_one, fMet_one]
      simp [met, h7]
    · refine ⟨[(prtE a (plcs r), prtE a (plcs r))], ?_, .rep (by omega) (k - 1) (by omega) (endE true a (plcs r)) (endE false a (plcs r)) _ ?_ ?_ (mL _ _) (mF _ _)⟩
      · rw [fMet_one, fMet_one]
        simp [met, h7]
      · have := rends (b := b) (off := off) (cap := cap) true hl hc hm a ha _ _ _ hL hi
        rwa [hsr] at this
      · have := rends (b := b) (off := off) (cap := cap) false hl hc hm a ha _ _ _ hL hi
        rwa [hsr] at this
  | cat r a c e =>
    obtain ⟨h1, h2⟩ := hF
    rw [List.flatMap_append, List.flatMap_cons, List.flatMap_cons, List.flatMap_nil, List.append_nil] at h1
    have ha := h2 a (by simp)
    have hcc := h2 c (by simp)
    have hp := ops_pos a
    have hp2 := ops_pos c
    have hsr := sets_flat r fun x hx => h2 x (by simp [hx])
    have hL1 : L = r.flatMap ops ++ ops a ++ (ops c ++ L.drop k) := by
      conv => lhs; rw [hsp, ← h1]
      simp
    have hL2 : L = (r.flatMap ops ++ ops a) ++ ops c ++ L.drop k := by
      conv => lhs; rw [hsp, ← h1]
      simp
    have hk2 : (r.flatMap ops).length + ((ops a).length + (ops c).length) = k := by
      have := congrArg List.length h1
      rw [List.length_append, List.length_append, hlen] at this
      omega
    have hs2 : (sets (r.flatMap ops ++ ops a)).length = plcs r + plc a := by rw [sets_append, List.length_append, hsr, sets_ops a ha]
    refine ⟨[(prtE a (plcs r), prtE c (plcs r + plc a))], ?_, .cat (by rw [e]; rfl) (k - 1) (r.flatMap ops ++ ops a).length ((r.flatMap ops).length + (ops a).length - 1) (by omega) (by simp only [List.length_append]; omega) (by simp only [List.length_append]; omega) (begins hcc (by omega) hL2 (by simp only [List.length_append]; omega)) (endE true a (plcs r)) (endE false c (plcs r + plc a)) _ _ ?_ ?_ (mL _ _) (mF _ _)⟩
    · rw [fMet_one, fMet_two]
      simp [met]
    · have := rends (b := b) (off := off) (cap := cap) true hl hc hm a ha _ _ ((r.flatMap ops).length + (ops a).length - 1) hL1 (by omega)
      rwa [hsr] at this
    · have := rends (b := b) (off := off) (cap := cap) false hl hc hm c hcc _ _ (k - 1) hL2 (by simp only [List.length_append]; omega)
      rwa [hs2] at this
def pq (p q : Nat) (x : Prt × Prt) : Bool := x.1.last p && x.2.first q
set_option maxHeartbeats 8000000 in
set_option maxRecDepth 100000 in
theorem rfollows_calls {b off cap : Nat} {L : List Stp} {w : World} (p q : Nat) (h : Lay b off L w) (hz : (measV L).2 = 0) (hwd : ∀ s ∈ L, s.wide) (hc : L.length ≤ cap) (hm : cap ≤ maxLen) :
    Calls Tryz.prog 63 #[.slice (some ⟨b, off, none⟩) L.length cap, .int .i64 p, .int .i64 q] w fun e w' => e = .returned (.bool ((met (treeE L) 0).any (pq p q))) ∧ Below w.heap.size w w' := by
  obtain ⟨h512, hE⟩ := meas_expr hz
  obtain ⟨hone, hok, hops⟩ := tree_of hE hwd
  obtain ⟨D, hD⟩ : ∃ D : Nat → Bool, D = fun k => (fMet (trees L k) 0).any (pq p q) := ⟨_, rfl⟩
  have HST := hidden (fun k (hk : k < L.length) => (show ∃ new, D (k + 1) = (D k || new.any (pq p q)) ∧ Fst b off cap L k (L.getD k default).k new from by
    obtain ⟨new, h1, h2⟩ := fst_of (b := b) (off := off) (cap := cap) hk hE hwd h512 hc hm
    exact ⟨new, by rw [hD]; simp only [h1, List.any_append], h2⟩))
  have HZ := hidden (show D 0 = false by rw [hD]; rfl)
  have HE := hidden (show D L.length = (met (treeE L) 0).any (pq p q) by rw [hD]; simp only [hone]; simp [fMet])
  have HUP := hidden (fun k (hk : k ≤ L.length) => (show D k = true → D L.length = true from by
    intro ht
    have key : ∀ d, k + d ≤ L.length → D (k + d) = true := by
      intro d
      induction d with
      | zero => intro _; exact ht
      | succ d ih =>
        intro hd
        obtain ⟨new, h1, _⟩ := HST.out (k + d) (by omega)
        rw [← Nat.add_assoc, h1, ih (by omega)]
        rfl
    have := key (L.length - k) (by omega)
    rwa [show k + (L.length - k) = L.length by omega] at this))
  have HLY := hidden h
  have HKD := hidden (fun w' (hw : Below w.heap.size w w') k (hk : k < L.length) => (h.below hw).kind hk rfl)
  generalize hR : (met (treeE L) 0).any (pq p q) = R at *
  obtain ⟨n, hn⟩ : ∃ n, n = L.length := ⟨_, rfl⟩
  rw [← hn] at HST HE HUP HKD h512 ⊢
  have HNN := hidden hn.symm
  clear h hE hone hok hops hD hR hn hz hwd hc hm
  go_enter Tryz.func63, Tryz.ntmps63
  go_wp2
  go_loopw [7] (fun i wr => ∃ k : Nat, k ≤ n ∧ i = .int .i64 k ∧ Hid (D k = false) ∧ Below w.heap.size w wr) (fun i _ => n - (intOf i).toNat)
  case atStart => exact ⟨0, by omega, rfl, HZ, Below.refl _ _⟩
  case round =>
    obtain ⟨k, hk, rfl, hdk, hb⟩ := hrel
    have HB := hidden hb
    clear hb
    by_cases hlt : k < n
    · have c0 := HKD.out wr HB.out k hlt
      obtain ⟨new, hnew, hfst⟩ := HST.out k hlt
      have hsub : 1 ≤ k → IntKind.i64.wrap ((k : Int) - 1) = ((k - 1 : Nat) : Int) := fun h => by rw [IntKind.wrap_i64]; omega
      have hlt' := hlt
      generalize (L.getD k default).k = kd at *
      rw [hdk.out, Bool.false_or] at hnew
      have HNEW := hidden hnew
      clear hnew
      rcases hfst with ⟨h3, h5, h6⟩ | ⟨hkd, j, hj, X, Y, x, hX, hY, mX, mY⟩ | ⟨hkd, j, y, l, hj, hy, hy1, hB, X, Y, x, z, hX, hY, mX, mY⟩
      · have q3 : (kd == 3) = false := by simpa using h3
        have q5 : (kd == 5) = false := by simpa using h5
        have q6 : (kd == 6) = false := by simpa using h6
        have HD1 := hidden (show D (k + 1) = false by rw [HNEW.out]; rfl)
        clear hsub h3 h5 h6 hdk
        go_wp2
        go_roundw
        case rel => exact ⟨k + 1, by omega, by go_num, HD1, HB.out⟩
        case measure => simp [intOf]; omega
      · have hs1 := hsub (by omega)
        have hjk : k - 1 = j := by omega
        rw [hjk] at hs1
        have HTX := hidden hX
        have HTY := hidden hY
        have HX := hidden (fun v : Bool => fun (h : x.last p = v) => (show decide ((p : Int) ∈ spI X) = v from by cases v; exact decide_eq_false (by rw [mX, h]; decide); exact decide_eq_true (by rw [mX, h])))
        have HY := hidden (fun v : Bool => fun (h : x.first q = v) => (show decide ((q : Int) ∈ spI Y) = v from by cases v; exact decide_eq_false (by rw [mY, h]; decide); exact decide_eq_true (by rw [mY, h])))
        have HND := hidden (show D (k + 1) = (x.last p && x.first q) by rw [HNEW.out]; simp [pq])
        clear hsub hdk hX hY mX mY HNEW hj hjk
        generalize spI X = SX at *
        generalize spI Y = SY at *
        generalize x.last p = u at *
        generalize x.first q = v at *
        rcases hkd with rfl | rfl
        · cases u
          case false =>
            go_wp2_with fail
            rw [← HNN.out]
            refine (HTX.out _ (HLY.out.below HB.out)).mono ?_
            rintro e w1X ⟨vX, rfl, hrX, hbX⟩
            have HBX := hidden (below_after HB.out hbX)
            have HHX := hidden (has10_calls (B := w1X.heap.size) w1X vX _ (p : Int) hrX.reads)
            obtain ⟨aX, cX, rfl⟩ := hrX.form
            rw [HNN.out]
            clear hrX hbX
            go_wp2_with fail
            refine HHX.out.mono ?_
            rintro e w2X ⟨rfl, hbX⟩
            have HCX := hidden (below_after HBX.out hbX)
            rw [HX.out false rfl]
            clear hbX
            have HD1 := hidden (show D (k + 1) = false by rw [HND.out]; rfl)
            go_wp2
            go_roundw
            case rel => exact ⟨k + 1, by omega, by go_num, HD1, HCX.out⟩
            case measure => simp [intOf]; omega
          case true =>
            cases v
            case false =>
              go_wp2_with fail
              rw [← HNN.out]
              refine (HTX.out _ (HLY.out.below HB.out)).mono ?_
              rintro e w1X ⟨vX, rfl, hrX, hbX⟩
              have HBX := hidden (below_after HB.out hbX)
              have HHX := hidden (has10_calls (B := w1X.heap.size) w1X vX _ (p : Int) hrX.reads)
              obtain ⟨aX, cX, rfl⟩ := hrX.form
              rw [HNN.out]
              clear hrX hbX
              go_wp2_with fail
              refine HHX.out.mono ?_
              rintro e w2X ⟨rfl, hbX⟩
              have HCX := hidden (below_after HBX.out hbX)
              rw [HX.out true rfl]
              clear hbX
              go_wp2_with fail
              rw [← HNN.out]
              refine (HTY.out _ (HLY.out.below HCX.out)).mono ?_
              rintro e w1Y ⟨vY, rfl, hrY, hbY⟩
              have HBY := hidden (below_after HCX.out hbY)
              have HHY := hidden (has10_calls (B := w1Y.heap.size) w1Y vY _ (q : Int) hrY.reads)
              obtain ⟨aY, cY, rfl⟩ := hrY.form
              rw [HNN.out]
              clear hrY hbY
              go_wp2_with fail
              refine HHY.out.mono ?_
              rintro e w2Y ⟨rfl, hbY⟩
              have HCY := hidden (below_after HBY.out hbY)
              rw [HY.out false rfl]
              clear hbY
              have HD1 := hidden (show D (k + 1) = false by rw [HND.out]; rfl)
              go_wp2
              go_roundw
              case rel => exact ⟨k + 1, by omega, by go_num, HD1, HCY.out⟩
              case measure => simp [intOf]; omega
            case true =>
              go_wp2_with fail
              rw [← HNN.out]
              refine (HTX.out _ (HLY.out.below HB.out)).mono ?_
              rintro e w1X ⟨vX, rfl, hrX, hbX⟩
              have HBX := hidden (below_after HB.out hbX)
              have HHX := hidden (has10_calls (B := w1X.heap.size) w1X vX _ (p : Int) hrX.reads)
              obtain ⟨aX, cX, rfl⟩ := hrX.form
              rw [HNN.out]
              clear hrX hbX
              go_wp2_with fail
              refine HHX.out.mono ?_
              rintro e w2X ⟨rfl, hbX⟩
              have HCX := hidden (below_after HBX.out hbX)
              rw [HX.out true rfl]
              clear hbX
              go_wp2_with fail
              rw [← HNN.out]
              refine (HTY.out _ (HLY.out.below HCX.out)).mono ?_
              rintro e w1Y ⟨vY, rfl, hrY, hbY⟩
              have HBY := hidden (below_after HCX.out hbY)
              have HHY := hidden (has10_calls (B := w1Y.heap.size) w1Y vY _ (q : Int) hrY.reads)
              obtain ⟨aY, cY, rfl⟩ := hrY.form
              rw [HNN.out]
              clear hrY hbY
              go_wp2_with fail
              refine HHY.out.mono ?_
              rintro e w2Y ⟨rfl, hbY⟩
              have HCY := hidden (below_after HBY.out hbY)
              rw [HY.out true rfl]
              clear hbY
              have HR := hidden (HE.out.symm.trans (HUP.out (k + 1) (by omega) (by rw [HND.out]; rfl)))
              go_wp2
              go_ret
              exact ⟨ret_b HR.out.symm, HCY.out⟩
        · cases u
          case false =>
            go_wp2_with fail
            rw [← HNN.out]
            refine (HTX.out _ (HLY.out.below HB.out)).mono ?_
            rintro e w1X ⟨vX, rfl, hrX, hbX⟩
            have HBX := hidden (below_after HB.out hbX)
            have HHX := hidden (has10_calls (B := w1X.heap.size) w1X vX _ (p : Int) hrX.reads)
            obtain ⟨aX, cX, rfl⟩ := hrX.form
            rw [HNN.out]
            clear hrX hbX
            go_wp2_with fail
            refine HHX.out.mono ?_
            rintro e w2X ⟨rfl, hbX⟩
            have HCX := hidden (below_after HBX.out hbX)
            rw [HX.out false rfl]
            clear hbX
            have HD1 := hidden (show D (k + 1) = false by rw [HND.out]; rfl)
            go_wp2
            go_roundw
            case rel => exact ⟨k + 1, by omega, by go_num, HD1, HCX.out⟩
            case measure => simp [intOf]; omega
          case true =>
            cases v
            case false =>
              go_wp2_with fail
              rw [← HNN.out]
              refine (HTX.out _ (HLY.out.below HB.out)).mono ?_
              rintro e w1X ⟨vX, rfl, hrX, hbX⟩
              have HBX := hidden (below_after HB.out hbX)
              have HHX := hidden (has10_calls (B := w1X.heap.size) w1X vX _ (p : Int) hrX.reads)
              obtain ⟨aX, cX, rfl⟩ := hrX.form
              rw [HNN.out]
              clear hrX hbX
              go_wp2_with fail
              refine HHX.out.mono ?_
              rintro e w2X ⟨rfl, hbX⟩
              have HCX := hidden (below_after HBX.out hbX)
              rw [HX.out true rfl]
              clear hbX
              go_wp2_with fail
              rw [← HNN.out]
              refine (HTY.out _ (HLY.out.below HCX.out)).mono ?_
              rintro e w1Y ⟨vY, rfl, hrY, hbY⟩
              have HBY := hidden (below_after HCX.out hbY)
              have HHY := hidden (has10_calls (B := w1Y.heap.size) w1Y vY _ (q : Int) hrY.reads)
              obtain ⟨aY, cY, rfl⟩ := hrY.form
              rw [HNN.out]
              clear hrY hbY
              go_wp2_with fail
              refine HHY.out.mono ?_
              rintro e w2Y ⟨rfl, hbY⟩
              have HCY := hidden (below_after HBY.out hbY)
              rw [HY.out false rfl]
              clear hbY
              have HD1 := hidden (show D (k + 1) = false by rw [HND.out]; rfl)
              go_wp2
              go_roundw
              case rel => exact ⟨k + 1, by omega, by go_num, HD1, HCY.out⟩
              case measure => simp [intOf]; omega
            case true =>
              go_wp2_with fail
              rw [← HNN.out]
              refine (HTX.out _ (HLY.out.below HB.out)).mono ?_
              rintro e w1X ⟨vX, rfl, hrX, hbX⟩
              have HBX := hidden (below_after HB.out hbX)
              have HHX := hidden (has10_calls (B := w1X.heap.size) w1X vX _ (p : Int) hrX.reads)
              obtain ⟨aX, cX, rfl⟩ := hrX.form
              rw [HNN.out]
              clear hrX hbX
              go_wp2_with fail
              refine HHX.out.mono ?_
              rintro e w2X ⟨rfl, hbX⟩
              have HCX := hidden (below_after HBX.out hbX)
              rw [HX.out true rfl]
              clear hbX
              go_wp2_with fail
              rw [← HNN.out]
              refine (HTY.out _ (HLY.out.below HCX.out)).mono ?_
              rintro e w1Y ⟨vY, rfl, hrY, hbY⟩
              have HBY := hidden (below_after HCX.out hbY)
              have HHY := hidden (has10_calls (B := w1Y.heap.size) w1Y vY _ (q : Int) hrY.reads)
              obtain ⟨aY, cY, rfl⟩ := hrY.form
              rw [HNN.out]
              clear hrY hbY
              go_wp2_with fail
              refine HHY.out.mono ?_
              rintro e w2Y ⟨rfl, hbY⟩
              have HCY := hidden (below_after HBY.out hbY)
              rw [HY.out true rfl]
              clear hbY
              have HR := hidden (HE.out.symm.trans (HUP.out (k + 1) (by omega) (by rw [HND.out]; rfl)))
              go_wp2
              go_ret
              exact ⟨ret_b HR.out.symm, HCY.out⟩
      · have hs1 := hsub (by omega)
        have hjk : k - 1 = j := by omega
        rw [hjk] at hs1
        have HTX := hidden hX
        have HTY := hidden hY
        have HBB := hidden hB
        have hs2 : IntKind.i64.wrap ((y : Int) - 1) = l := by rw [IntKind.wrap_i64]; omega
        subst hkd
        have HX := hidden (fun v : Bool => fun (h : x.last p = v) => (show decide ((p : Int) ∈ spI X) = v from by cases v; exact decide_eq_false (by rw [mX, h]; decide); exact decide_eq_true (by rw [mX, h])))
        have HY := hidden (fun v : Bool => fun (h : z.first q = v) => (show decide ((q : Int) ∈ spI Y) = v from by cases v; exact decide_eq_false (by rw [mY, h]; decide); exact decide_eq_true (by rw [mY, h])))
        have HND := hidden (show D (k + 1) = (x.last p && z.first q) by rw [HNEW.out]; simp [pq])
        clear hsub hdk hX hY mX mY HNEW hj hjk hB hy
        generalize spI X = SX at *
        generalize spI Y = SY at *
        generalize x.last p = u at *
        generalize z.first q = v at *
        cases u
        case false =>
          go_wp2_with fail
          rw [← HNN.out]
          refine (HBB.out _ (HLY.out.below HB.out)).mono ?_
          rintro e w7 ⟨rfl, rfl⟩
          rw [HNN.out]
          go_wp2_with fail
          rw [← HNN.out]
          refine (HTX.out _ (HLY.out.below HB.out)).mono ?_
          rintro e w1X ⟨vX, rfl, hrX, hbX⟩
          have HBX := hidden (below_after HB.out hbX)
          have HHX := hidden (has10_calls (B := w1X.heap.size) w1X vX _ (p : Int) hrX.reads)
          obtain ⟨aX, cX, rfl⟩ := hrX.form
          rw [HNN.out]
          clear hrX hbX
          go_wp2_with fail
          refine HHX.out.mono ?_
          rintro e w2X ⟨rfl, hbX⟩
          have HCX := hidden (below_after HBX.out hbX)
          rw [HX.out false rfl]
          clear hbX
          have HD1 := hidden (show D (k + 1) = false by rw [HND.out]; rfl)
          go_wp2
          go_roundw
          case rel => exact ⟨k + 1, by omega, by go_num, HD1, HCX.out⟩
          case measure => simp [intOf]; omega
        case true =>
          cases v
          case false =>
            go_wp2_with fail
            rw [← HNN.out]
            refine (HBB.out _ (HLY.out.below HB.out)).mono ?_
            rintro e w7 ⟨rfl, rfl⟩
            rw [HNN.out]
            go_wp2_with fail
            rw [← HNN.out]
            refine (HTX.out _ (HLY.out.below HB.out)).mono ?_
            rintro e w1X ⟨vX, rfl, hrX, hbX⟩
            have HBX := hidden (below_after HB.out hbX)
            have HHX := hidden (has10_calls (B := w1X.heap.size) w1X vX _ (p : Int) hrX.reads)
            obtain ⟨aX, cX, rfl⟩ := hrX.form
            rw [HNN.out]
            clear hrX hbX
            go_wp2_with fail
            refine HHX.out.mono ?_
            rintro e w2X ⟨rfl, hbX⟩
            have HCX := hidden (below_after HBX.out hbX)
            rw [HX.out true rfl]
            clear hbX
            go_wp2_with fail
            rw [← HNN.out]
            refine (HTY.out _ (HLY.out.below HCX.out)).mono ?_
            rintro e w1Y ⟨vY, rfl, hrY, hbY⟩
            have HBY := hidden (below_after HCX.out hbY)
            have HHY := hidden (has10_calls (B := w1Y.heap.size) w1Y vY _ (q : Int) hrY.reads)
            obtain ⟨aY, cY, rfl⟩ := hrY.form
            rw [HNN.out]
            clear hrY hbY
            go_wp2_with fail
            refine HHY.out.mono ?_
            rintro e w2Y ⟨rfl, hbY⟩
            have HCY := hidden (below_after HBY.out hbY)
            rw [HY.out false rfl]
            clear hbY
            have HD1 := hidden (show D (k + 1) = false by rw [HND.out]; rfl)
            go_wp2
            go_roundw
            case rel => exact ⟨k + 1, by omega, by go_num, HD1, HCY.out⟩
            case measure => simp [intOf]; omega
          case true =>
            go_wp2_with fail
            rw [← HNN.out]
            refine (HBB.out _ (HLY.out.below HB.out)).mono ?_
            rintro e w7 ⟨rfl, rfl⟩
            rw [HNN.out]
            go_wp2_with fail
            rw [← HNN.out]
            refine (HTX.out _ (HLY.out.below HB.out)).mono ?_
            rintro e w1X ⟨vX, rfl, hrX, hbX⟩
            have HBX := hidden (below_after HB.out hbX)
            have HHX := hidden (has10_calls (B := w1X.heap.size) w1X vX _ (p : Int) hrX.reads)
            obtain ⟨aX, cX, rfl⟩ := hrX.form
            rw [HNN.out]
            clear hrX hbX
            go_wp2_with fail
            refine HHX.out.mono ?_
            rintro e w2X ⟨rfl, hbX⟩
            have HCX := hidden (below_after HBX.out hbX)
            rw [HX.out true rfl]
            clear hbX
            go_wp2_with fail
            rw [← HNN.out]
            refine (HTY.out _ (HLY.out.below HCX.out)).mono ?_
            rintro e w1Y ⟨vY, rfl, hrY, hbY⟩
            have HBY := hidden (below_after HCX.out hbY)
            have HHY := hidden (has10_calls (B := w1Y.heap.size) w1Y vY _ (q : Int) hrY.reads)
            obtain ⟨aY, cY, rfl⟩ := hrY.form
            rw [HNN.out]
            clear hrY hbY
            go_wp2_with fail
            refine HHY.out.mono ?_
            rintro e w2Y ⟨rfl, hbY⟩
            have HCY := hidden (below_after HBY.out hbY)
            rw [HY.out true rfl]
            clear hbY
            have HR := hidden (HE.out.symm.trans (HUP.out (k + 1) (by omega) (by rw [HND.out]; rfl)))
            go_wp2
            go_ret
            exact ⟨ret_b HR.out.symm, HCY.out⟩
    · obtain rfl : k = n := by omega
      have HR := hidden (HE.out.symm.trans hdk.out)
      clear hdk
      go_wp2
      go_ret
      exact ⟨ret_b HR.out.symm, HB.out⟩
end Go.Proofs.YtmpjjnjggihojaaGreatDoor
