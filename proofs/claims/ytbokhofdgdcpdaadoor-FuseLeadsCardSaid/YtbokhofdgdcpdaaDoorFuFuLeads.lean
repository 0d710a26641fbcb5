/- 'FuseLeads' answers true for every net, list of numbers, byte and word: whether a net is right, where bytes lead in it, and what is read there, is what the document says. Conditions: the listed table math/bits.deBruijn64tab holds what its initialiser lays (listed and tied). -/
import Derived.Test.YtbokhofdgdcpdaaDoorFu35
import Derived.Test.YtbokhofdgdcpdaaDoorFu36
namespace Go.Proofs.YtbokhofdgdcpdaaDoor
open Go.RowKit Go.Lib Go.Joins
attribute [local go_sem] evalR_tmp evalR_const evalR_global evalR_func
theorem open_zs {H : Type} {enc : TypeId × Value → H} {W : World} {a : Option Addr} {len cap : Nat} {d : DataW H} {p : List MemPlace}
    (h : DataW.Trod enc Tryd.prog W 0 (fun _ => true) true 30 (.slice a len cap) d p) : ∃ l, RdZ W.heap.size W (.slice a len cap) l := by
  obtain ⟨fuel, hf⟩ := h
  obtain ⟨l, hl, _⟩ := open_rdZ Tryd.underlying30 (by simpa [Value.cells] using hf)
  exact ⟨l, hl⟩
structure KL (w0 : World) (n0 : Nat) (vs vo vl vf v1 : Value) (N : NetM) (u : Value) (l : List Int) (w : World) : Prop where
  b : Below w0.heap.size w0 w
  n : w.heap[n0]? = some (.cells #[vs, vo, vl, vf, v1] 48 (0, 0))
  r : RdNet w.heap.size w vs vo vl vf v1 N
  z : RdZ w.heap.size w u l
  tab : Tab w
theorem KL.more {w0 w w' : World} {n0 : Nat} {vs vo vl vf v1 u : Value} {N : NetM} {l : List Int} (h : KL w0 n0 vs vo vl vf v1 N u l w) (hb : Below w.heap.size w w') : KL w0 n0 vs vo vl vf v1 N u l w' :=
  ⟨below_after h.b hb, (hb.block n0 (Array.getElem?_eq_some_iff.1 h.n).1).trans h.n, h.r.later hb, h.z.later hb, h.tab.below hb⟩
theorem KL.cells {w0 w : World} {n0 : Nat} {vs vo vl vf v1 u : Value} {N : NetM} {l : List Int} (h : KL w0 n0 vs vo vl vf v1 N u l w) : w.cell? ⟨n0, 0, none⟩ = some vs ∧ w.cell? ⟨n0, 1, none⟩ = some vo ∧ w.cell? ⟨n0, 2, none⟩ = some vl ∧ w.cell? ⟨n0, 3, none⟩ = some vf ∧ w.cell? ⟨n0, 4, none⟩ = some v1 :=
  ⟨cell_of_row _ _ 0 _ _ _ h.n, cell_of_row _ _ 1 _ _ _ h.n, cell_of_row _ _ 2 _ _ _ h.n, cell_of_row _ _ 3 _ _ _ h.n, cell_of_row _ _ 4 _ _ _ h.n⟩
def LLe (a1 : Option Addr) (len1 cap1 c : Nat) (D E F : List Int) (R : Bool) (tk : Int) (s3 : ByteArray) (vs vo vl vf v1 : Value) : List (Value → World → Prop) := [
  Is (.agg #[vs, vo, vl, vf, v1]), Is (.bool R), Is (.agg #[vs, vo, vl, vf, v1]), Is (.bool R), isTrue, isTrue, Is (.agg #[vs, vo, vl, vf, v1]), Is (.int .u8 (c : Int)), Rz D.length D, Is (.agg #[vs, vo, vl, vf, v1]), Is (.int .u8 (c : Int)), Rz D.length D, isTrue, isTrue, isTrue, Is (.agg #[vs, vo, vl, vf, v1]), Is (.slice a1 len1 cap1), Is (.int .u8 (c : Int)), Rz E.length E, Is (.agg #[vs, vo, vl, vf, v1]), Is (.slice a1 len1 cap1), Is (.int .u8 (c : Int)), Rz E.length E, isTrue, isTrue, isTrue, Is (.agg #[vs, vo, vl, vf, v1]), Is (.string s3), Rz F.length F, Is (.agg #[vs, vo, vl, vf, v1]), Is (.string s3), Rz F.length F, isTrue, isTrue, isTrue, Is (.agg #[vs, vo, vl, vf, v1]), Is (.slice a1 len1 cap1), Is (.int .i64 tk), Is (.agg #[vs, vo, vl, vf, v1]), Is (.slice a1 len1 cap1), Is (.int .i64 tk), isTrue, isTrue, isTrue, isTrue, isTrue, isTrue]
set_option maxHeartbeats 16000000 in
set_option maxRecDepth 100000 in
theorem walkFuLeads (vs vo vl vf v1 : Value) (N : NetM) (a1 : Option Addr) (len1 cap1 : Nat) (l : List Int) (b : Int) (s3 : ByteArray) (w : World) (h : RdNet w.heap.size w vs vo vl vf v1 N ∧ (∀ s ∈ N.sets, s.wide) ∧ NetSz N) (hl : RdZ w.heap.size w (.slice a1 len1 cap1) l) (hb : 0 ≤ b ∧ b ≤ 255) (_ : s3.size ≤ maxLen) (ht : Tab w) :
    Calls Tryd.prog 7 #[.agg #[vs, vo, vl, vf, v1], .slice a1 len1 cap1, .int .u8 b, .string s3] w fun e w' => e = .returned (.bool true) ∧ Below w.heap.size w w' := by
  obtain ⟨hN, hwd, hsz⟩ := h
  obtain ⟨c, rfl⟩ : ∃ c : Nat, b = (c : Int) := ⟨b.toNat, by omega⟩
  have hc : c < 256 := by omega
  have hlen : len1 = l.length := by obtain ⟨_, _, e, _⟩ := hl; simp only [Value.slice.injEq] at e; exact e.2.1
  have HT := hidden ht
  have HONE := hidden hN.one
  have HN := hidden hN
  have HZ := hidden hl
  have HBA := hidden ((Below.refl w.heap.size w).alloc (Nat.le_refl _) (.cells #[vs, vo, vl, vf, v1] 48))
  have HSM := hidden (small_calls (hN.later HBA.out) hsz)
  have HBX := hidden (net_box w vs vo vl vf v1 48)
  have HOB := hidden (heap_alloc_new w (.cells #[vs, vo, vl, vf, v1] 48))
  obtain ⟨b0, b1, b2, b3, b4⟩ := HBX.out _ (Below.refl _ _)
  by_cases hsm : smallB N = true
  case neg =>
    have hsm' : smallB N = false := by simpa using hsm
    rw [hsm'] at HSM
    clear hN hwd hsz hl hb ht hsm hsm' hlen hc
    go_enter Tryd.func7, Tryd.ntmps7
    go_wp2_with fail
    refine HSM.out.mono ?_
    rintro e w1 ⟨rfl, hb1⟩
    have HBB := hidden (below_after HBA.out hb1)
    clear hb1
    go_wp2_with fail
    refine (knows12_calls _ (HT.out.below HBB.out)).mono ?_
    rintro e w4 ⟨rfl, hb4⟩
    have HBZ := hidden (below_after HBB.out hb4)
    go_wp2
    go_ret
    exact ⟨rfl, HBZ.out⟩
  rw [hsm] at HSM
  have HS := hidden (small_yes hsm)
  have HWD := hidden hwd
  have HLE := hidden hlen
  have HCC := hidden hc
  clear hN hwd hsz hl hb ht hsm hlen hc
  by_cases p1 : 60 < len1
  case pos =>
    have q2 : decide ((60 : Int) < (len1 : Int)) = true := decide_eq_true (by omega)
    have q3 : decide (60 < len1) = true := decide_eq_true p1
    clear p1
    go_enter Tryd.func7, Tryd.ntmps7
    go_wp2_with fail
    refine HSM.out.mono ?_
    rintro e w1 ⟨rfl, hb1⟩
    have HBB := hidden (below_after HBA.out hb1)
    clear hb1
    go_wp2_with fail
    refine (knows12_calls _ (HT.out.below HBB.out)).mono ?_
    rintro e w4 ⟨rfl, hb4⟩
    have HBZ := hidden (below_after HBB.out hb4)
    go_wp2
    go_ret
    exact ⟨rfl, HBZ.out⟩
  have q2 : decide ((60 : Int) < (len1 : Int)) = false := decide_eq_false (by omega)
  have q3 : decide (60 < len1) = false := decide_eq_false p1
  by_cases p2 : 40 < s3.size
  case pos =>
    have q4 : decide ((40 : Int) < (s3.size : Int)) = true := decide_eq_true (by omega)
    have q5 : decide (40 < s3.size) = true := decide_eq_true p2
    clear p1 p2
    go_enter Tryd.func7, Tryd.ntmps7
    go_wp2_with fail
    refine HSM.out.mono ?_
    rintro e w1 ⟨rfl, hb1⟩
    have HBB := hidden (below_after HBA.out hb1)
    clear hb1
    go_wp2_with fail
    refine (knows12_calls _ (HT.out.below HBB.out)).mono ?_
    rintro e w4 ⟨rfl, hb4⟩
    have HBZ := hidden (below_after HBB.out hb4)
    go_wp2
    go_ret
    exact ⟨rfl, HBZ.out⟩
  have q4 : decide ((40 : Int) < (s3.size : Int)) = false := decide_eq_false (by omega)
  have q5 : decide (40 < s3.size) = false := decide_eq_false p2
  have hl60 : l.length ≤ 60 := by have := HLE.out; omega
  have hs40 : s3.size ≤ 40 := by omega
  obtain ⟨R, hR⟩ : ∃ R, R = rightB N := ⟨_, rfl⟩
  obtain ⟨tk, htk⟩ : ∃ k, k = tokenM N l := ⟨_, rfl⟩
  obtain ⟨D, hD⟩ : ∃ D, D = spI (startM N c) := ⟨_, rfl⟩
  obtain ⟨E, hE⟩ : ∃ E, E = spI (stepM N l c) := ⟨_, rfl⟩
  obtain ⟨F, hF⟩ : ∃ F, F = spI (runM N (byN s3)) := ⟨_, rfl⟩
  have HRR := hidden (show (R == R) = true by simp)
  have HTT := hidden (show (tk == tk) = true by simp)
  have HRP := hidden (fun (W : World) {vs vo vl vf v1 : Value} (hr : RdNet W.heap.size W vs vo vl vf v1 N) => (show Calls Tryd.prog 33 #[.agg #[vs, vo, vl, vf, v1]] W fun e w' => e = .returned (.bool R) ∧ Below W.heap.size W w' from by rw [hR]; exact right12_calls hr))
  have HRF := hidden (fun (W : World) {vs vo vl vf v1 : Value} (hr : RdNet W.heap.size W vs vo vl vf v1 N) => (show Calls Tryd.prog 35 #[.agg #[vs, vo, vl, vf, v1]] W fun e w' => e = .returned (.bool R) ∧ Below W.heap.size W w' from by rw [hR]; exact rright12_calls hr))
  have HS1 := hidden (fun (W : World) {vs vo vl vf v1 : Value} (hr : RdNet W.heap.size W vs vo vl vf v1 N) => (show Calls Tryd.prog 37 #[.agg #[vs, vo, vl, vf, v1], .int .u8 (c : Int)] W (RetZ W D) from by rw [hD]; exact start_calls hr HWD.out (by have := HS.out.sum; omega) HCC.out))
  have HS2 := hidden (fun (W : World) {vs vo vl vf v1 : Value} (hr : RdNet W.heap.size W vs vo vl vf v1 N) => (show Calls Tryd.prog 38 #[.agg #[vs, vo, vl, vf, v1], .int .u8 (c : Int)] W (RetZ W D) from by rw [hD]; exact rstart_calls hr HWD.out (by have := HS.out.sum; omega) HCC.out))
  have HE1 := hidden (fun (W : World) {vs vo vl vf v1 u : Value} (hr : RdNet W.heap.size W vs vo vl vf v1 N) (hz : RdZ W.heap.size W u l) => (show Calls Tryd.prog 39 #[.agg #[vs, vo, vl, vf, v1], u, .int .u8 (c : Int)] W (RetZ W E) from by rw [hE]; exact Step_calls hr HWD.out (by have := HS.out.sum; omega) hz HCC.out))
  have HE2 := hidden (fun (W : World) {vs vo vl vf v1 u : Value} (hr : RdNet W.heap.size W vs vo vl vf v1 N) (hz : RdZ W.heap.size W u l) => (show Calls Tryd.prog 40 #[.agg #[vs, vo, vl, vf, v1], u, .int .u8 (c : Int)] W (RetZ W E) from by rw [hE]; exact rStep_calls hr HWD.out (by have := HS.out.sum; omega) hz HCC.out (fun i => by have := HS.out.each i; omega) (by omega)))
  have HF1 := hidden (fun (W : World) {vs vo vl vf v1 : Value} (hr : RdNet W.heap.size W vs vo vl vf v1 N) => (show Calls Tryd.prog 41 #[.agg #[vs, vo, vl, vf, v1], .string s3] W (RetZ W F) from by rw [hF]; exact Run_calls s3 hr HWD.out (by have := HS.out.sum; omega) (by have := HS.out.sum; omega) (by omega)))
  have HF2 := hidden (fun (W : World) {vs vo vl vf v1 : Value} (hr : RdNet W.heap.size W vs vo vl vf v1 N) => (show Calls Tryd.prog 42 #[.agg #[vs, vo, vl, vf, v1], .string s3] W (RetZ W F) from by rw [hF]; exact rRun_calls s3 hr HWD.out (by have := HS.out.sum; omega) (fun i => by have := HS.out.each i; omega) (by omega)))
  have HK1 := hidden (fun (W : World) {vs vo vl vf v1 u : Value} (hr : RdNet W.heap.size W vs vo vl vf v1 N) (hz : RdZ W.heap.size W u l) => (show Calls Tryd.prog 43 #[.agg #[vs, vo, vl, vf, v1], u] W fun e w' => e = .returned (.int .i64 tk) ∧ Below W.heap.size W w' from by rw [htk]; exact Token_calls hr (by have := HS.out.sum; omega) hz))
  have HK2 := hidden (fun (W : World) {vs vo vl vf v1 u : Value} (hr : RdNet W.heap.size W vs vo vl vf v1 N) (hz : RdZ W.heap.size W u l) => (show Calls Tryd.prog 44 #[.agg #[vs, vo, vl, vf, v1], u] W fun e w' => e = .returned (.int .i64 tk) ∧ Below W.heap.size W w' from by rw [htk]; exact rToken_calls hr hz (by omega)))
  have HSA := hidden (fun (W : World) (A : List Int) (u1 u2 : Value) (h1 : RdZ W.heap.size W u1 A) (h2 : RdZ W.heap.size W u2 A) => (by have := rsame_calls h1 h2; rwa [decide_eq_true rfl] at this : Calls Tryd.prog 36 #[u1, u2] W fun e w' => e = .returned (.bool true) ∧ Below W.heap.size W w'))
  clear hR htk hD hE hF hl60 hs40 p1 p2
  go_enter Tryd.func7, Tryd.ntmps7
  go_wp2_with fail
  refine HSM.out.mono ?_
  rintro e w1 ⟨rfl, hb1⟩
  have HBB := hidden (below_after HBA.out hb1)
  have HK := hidden (KL.mk (w0 := w) (n0 := w.heap.size) HBB.out ((hb1.block w.heap.size (by simp)).trans HOB.out) (HN.out.later HBB.out) (HZ.out.later HBB.out) (HT.out.below HBB.out))
  obtain ⟨n0, hn0⟩ : ∃ n0, n0 = w.heap.size := ⟨_, rfl⟩
  rw [← hn0] at HK ⊢
  clear hb1 b0 b1 b2 b3 b4 hn0
  go_wp2_with fail
  refine wp_region_steps (typ (LLe a1 len1 cap1 c D E F R tk s3 vs vo vl vf v1)) (KL w n0 vs vo vl vf v1 N (.slice a1 len1 cap1) l) (by kernel_rfl) (by kernel_rfl) (by kernel_rfl) (by kernel_rfl) ?mono ?start [5, 14, 25, 34, 43] (by kernel_rfl) ?guards ?step ?fin
  case mono =>
    refine typ_mono ?_
    simp only [LLe, List.forall_mem_cons]
    repeat' (first | exact is_mono _ | exact rz_mono _ _ | (intro p hp; cases hp; done) | refine And.intro ?_ ?_)
  case start => exact HK.out.more (Below.refl _ _).drew
  case guards =>
    intro g hg v w h
    simp at hg
    rcases hg with rfl | rfl | rfl | rfl | rfl <;> exact h
  case fin =>
    intro a w1 hs hv hW
    rename_i Q' K hK
    refine hK a w1 ?_
    have h0 : a.tmps.getD 8 undef = .bool true := hv 46 8 (by kernel_rfl)
    have hd := hs.defers
    go_wp2
    refine bodyPost_ret (results_tmp rfl _ _ _) hd ?_
    rw [h0]
    exact ⟨rfl, hW.b⟩
  case step =>
    refine ⟨?_, ?_, ?_, ?_, ?_, ?_, ?_, ?_, ?_, ?_, ?_, ?_, ?_, ?_, ?_, ?_, ?_, ?_, ?_, ?_, ?_, ?_, ?_, ?_, ?_, ?_, ?_, ?_, ?_, ?_, ?_, ?_, ?_, ?_, ?_, ?_, ?_, ?_, ?_, ?_, ?_, ?_, ?_, ?_, ?_, ?_, ?_, trivial⟩
    · intro ρ w1 hF hW
      have HW := hidden hW
      clear hW
      have e4 : ρ 4 = .pointer (some ⟨n0, 0, none⟩) := hF 4 (by decide)
      clear hF
      obtain ⟨k0, k1, k2, k3, k4⟩ := HW.out.cells
      unfold Does
      go_simp
      exact ⟨rfl, HW.out, Below.refl _ _⟩
    · intro ρ w1 hF hW
      have HW := hidden hW
      clear hW
      have e23 : ρ 23 = .agg #[vs, vo, vl, vf, v1] := hF 23 (by decide)
      clear hF
      unfold Does
      go_simp
      refine (HRP.out _ HW.out.r).mono ?_
      rintro e w2 ⟨rfl, hb⟩
      exact ⟨_, rfl, rfl, HW.out.more hb, hb⟩
    · intro ρ w1 hF hW
      have HW := hidden hW
      clear hW
      have e4 : ρ 4 = .pointer (some ⟨n0, 0, none⟩) := hF 4 (by decide)
      clear hF
      obtain ⟨k0, k1, k2, k3, k4⟩ := HW.out.cells
      unfold Does
      go_simp
      exact ⟨rfl, HW.out, Below.refl _ _⟩
    · intro ρ w1 hF hW
      have HW := hidden hW
      clear hW
      have e25 : ρ 25 = .agg #[vs, vo, vl, vf, v1] := hF 25 (by decide)
      clear hF
      unfold Does
      go_simp
      refine (HRF.out _ HW.out.r).mono ?_
      rintro e w2 ⟨rfl, hb⟩
      exact ⟨_, rfl, rfl, HW.out.more hb, hb⟩
    · intro ρ w1 hF hW
      have HW := hidden hW
      clear hW
      have e24 : ρ 24 = .bool R := hF 24 (by decide)
      have e26 : ρ 26 = .bool R := hF 26 (by decide)
      clear hF
      have hq := HRR.out
      unfold Does
      go_simp
      exact ⟨rfl, HW.out, Below.refl _ _⟩
    · intro ρ w1 hF hW
      have HW := hidden hW
      clear hW
      have e27 : ρ 27 = .bool true := hF 27 (by decide)
      clear hF
      unfold Does
      go_simp
      exact ⟨rfl, HW.out, Below.refl _ _⟩
    · intro ρ w1 hF hW
      have HW := hidden hW
      clear hW
      have e4 : ρ 4 = .pointer (some ⟨n0, 0, none⟩) := hF 4 (by decide)
      clear hF
      obtain ⟨k0, k1, k2, k3, k4⟩ := HW.out.cells
      unfold Does
      go_simp
      exact ⟨rfl, HW.out, Below.refl _ _⟩
    · intro ρ w1 hF hW
      have HW := hidden hW
      clear hW
      have e2 : ρ 2 = .int .u8 (c : Int) := hF 2 (by decide)
      clear hF
      unfold Does
      go_simp
      exact ⟨rfl, HW.out, Below.refl _ _⟩
    · intro ρ w1 hF hW
      have HW := hidden hW
      clear hW
      have e29 : ρ 29 = .agg #[vs, vo, vl, vf, v1] := hF 29 (by decide)
      have e30 : ρ 30 = .int .u8 (c : Int) := hF 30 (by decide)
      clear hF
      unfold Does
      go_simp
      refine (HS1.out _ HW.out.r).mono ?_
      rintro e w2 ⟨v, rfl, hr, hb⟩
      exact ⟨_, rfl, rz_of hr.reads (Nat.le_refl _), HW.out.more hb, hb⟩
    · intro ρ w1 hF hW
      have HW := hidden hW
      clear hW
      have e4 : ρ 4 = .pointer (some ⟨n0, 0, none⟩) := hF 4 (by decide)
      clear hF
      obtain ⟨k0, k1, k2, k3, k4⟩ := HW.out.cells
      unfold Does
      go_simp
      exact ⟨rfl, HW.out, Below.refl _ _⟩
    · intro ρ w1 hF hW
      have HW := hidden hW
      clear hW
      have e2 : ρ 2 = .int .u8 (c : Int) := hF 2 (by decide)
      clear hF
      unfold Does
      go_simp
      exact ⟨rfl, HW.out, Below.refl _ _⟩
    · intro ρ w1 hF hW
      have HW := hidden hW
      clear hW
      have e32 : ρ 32 = .agg #[vs, vo, vl, vf, v1] := hF 32 (by decide)
      have e33 : ρ 33 = .int .u8 (c : Int) := hF 33 (by decide)
      clear hF
      unfold Does
      go_simp
      refine (HS2.out _ HW.out.r).mono ?_
      rintro e w2 ⟨v, rfl, hr, hb⟩
      exact ⟨_, rfl, rz_of hr.reads (Nat.le_refl _), HW.out.more hb, hb⟩
    · intro ρ w1 hF hW
      have HW := hidden hW
      clear hW
      obtain ⟨a31, c31, e31, h31⟩ : ∃ a c, ρ 31 = .slice a D.length c ∧ RdZ w1.heap.size w1 (.slice a D.length c) D := hF 31 (by decide)
      obtain ⟨a34, c34, e34, h34⟩ : ∃ a c, ρ 34 = .slice a D.length c ∧ RdZ w1.heap.size w1 (.slice a D.length c) D := hF 34 (by decide)
      clear hF
      unfold Does
      go_simp
      refine (HSA.out _ D _ _ h31 h34).mono ?_
      rintro e w2 ⟨rfl, hb⟩
      exact ⟨_, rfl, rfl, HW.out.more hb, hb⟩
    · intro ρ w1 hF hW
      have HW := hidden hW
      clear hW
      have e28 : ρ 28 = .bool true := hF 28 (by decide)
      have e35 : ρ 35 = .bool true := hF 35 (by decide)
      clear hF
      unfold Does
      go_simp
      exact ⟨rfl, HW.out, Below.refl _ _⟩
    · intro ρ w1 hF hW
      have HW := hidden hW
      clear hW
      have e36 : ρ 36 = .bool true := hF 36 (by decide)
      clear hF
      unfold Does
      go_simp
      exact ⟨rfl, HW.out, Below.refl _ _⟩
    · intro ρ w1 hF hW
      have HW := hidden hW
      clear hW
      have e4 : ρ 4 = .pointer (some ⟨n0, 0, none⟩) := hF 4 (by decide)
      clear hF
      obtain ⟨k0, k1, k2, k3, k4⟩ := HW.out.cells
      unfold Does
      go_simp
      exact ⟨rfl, HW.out, Below.refl _ _⟩
    · intro ρ w1 hF hW
      have HW := hidden hW
      clear hW
      have e1 : ρ 1 = .slice a1 len1 cap1 := hF 1 (by decide)
      clear hF
      unfold Does
      go_simp
      exact ⟨rfl, HW.out, Below.refl _ _⟩
    · intro ρ w1 hF hW
      have HW := hidden hW
      clear hW
      have e2 : ρ 2 = .int .u8 (c : Int) := hF 2 (by decide)
      clear hF
      unfold Does
      go_simp
      exact ⟨rfl, HW.out, Below.refl _ _⟩
    · intro ρ w1 hF hW
      have HW := hidden hW
      clear hW
      have e38 : ρ 38 = .agg #[vs, vo, vl, vf, v1] := hF 38 (by decide)
      have e39 : ρ 39 = .slice a1 len1 cap1 := hF 39 (by decide)
      have e40 : ρ 40 = .int .u8 (c : Int) := hF 40 (by decide)
      clear hF
      unfold Does
      go_simp
      refine (HE1.out _ HW.out.r HW.out.z).mono ?_
      rintro e w2 ⟨v, rfl, hr, hb⟩
      exact ⟨_, rfl, rz_of hr.reads (Nat.le_refl _), HW.out.more hb, hb⟩
    · intro ρ w1 hF hW
      have HW := hidden hW
      clear hW
      have e4 : ρ 4 = .pointer (some ⟨n0, 0, none⟩) := hF 4 (by decide)
      clear hF
      obtain ⟨k0, k1, k2, k3, k4⟩ := HW.out.cells
      unfold Does
      go_simp
      exact ⟨rfl, HW.out, Below.refl _ _⟩
    · intro ρ w1 hF hW
      have HW := hidden hW
      clear hW
      have e1 : ρ 1 = .slice a1 len1 cap1 := hF 1 (by decide)
      clear hF
      unfold Does
      go_simp
      exact ⟨rfl, HW.out, Below.refl _ _⟩
    · intro ρ w1 hF hW
      have HW := hidden hW
      clear hW
      have e2 : ρ 2 = .int .u8 (c : Int) := hF 2 (by decide)
      clear hF
      unfold Does
      go_simp
      exact ⟨rfl, HW.out, Below.refl _ _⟩
    · intro ρ w1 hF hW
      have HW := hidden hW
      clear hW
      have e42 : ρ 42 = .agg #[vs, vo, vl, vf, v1] := hF 42 (by decide)
      have e43 : ρ 43 = .slice a1 len1 cap1 := hF 43 (by decide)
      have e44 : ρ 44 = .int .u8 (c : Int) := hF 44 (by decide)
      clear hF
      unfold Does
      go_simp
      refine (HE2.out _ HW.out.r HW.out.z).mono ?_
      rintro e w2 ⟨v, rfl, hr, hb⟩
      exact ⟨_, rfl, rz_of hr.reads (Nat.le_refl _), HW.out.more hb, hb⟩
    · intro ρ w1 hF hW
      have HW := hidden hW
      clear hW
      obtain ⟨a41, c41, e41, h41⟩ : ∃ a c, ρ 41 = .slice a E.length c ∧ RdZ w1.heap.size w1 (.slice a E.length c) E := hF 41 (by decide)
      obtain ⟨a45, c45, e45, h45⟩ : ∃ a c, ρ 45 = .slice a E.length c ∧ RdZ w1.heap.size w1 (.slice a E.length c) E := hF 45 (by decide)
      clear hF
      unfold Does
      go_simp
      refine (HSA.out _ E _ _ h41 h45).mono ?_
      rintro e w2 ⟨rfl, hb⟩
      exact ⟨_, rfl, rfl, HW.out.more hb, hb⟩
    · intro ρ w1 hF hW
      have HW := hidden hW
      clear hW
      have e37 : ρ 37 = .bool true := hF 37 (by decide)
      have e46 : ρ 46 = .bool true := hF 46 (by decide)
      clear hF
      unfold Does
      go_simp
      exact ⟨rfl, HW.out, Below.refl _ _⟩
    · intro ρ w1 hF hW
      have HW := hidden hW
      clear hW
      have e47 : ρ 47 = .bool true := hF 47 (by decide)
      clear hF
      unfold Does
      go_simp
      exact ⟨rfl, HW.out, Below.refl _ _⟩
    · intro ρ w1 hF hW
      have HW := hidden hW
      clear hW
      have e4 : ρ 4 = .pointer (some ⟨n0, 0, none⟩) := hF 4 (by decide)
      clear hF
      obtain ⟨k0, k1, k2, k3, k4⟩ := HW.out.cells
      unfold Does
      go_simp
      exact ⟨rfl, HW.out, Below.refl _ _⟩
    · intro ρ w1 hF hW
      have HW := hidden hW
      clear hW
      have e3 : ρ 3 = .string s3 := hF 3 (by decide)
      clear hF
      unfold Does
      go_simp
      exact ⟨rfl, HW.out, Below.refl _ _⟩
    · intro ρ w1 hF hW
      have HW := hidden hW
      clear hW
      have e49 : ρ 49 = .agg #[vs, vo, vl, vf, v1] := hF 49 (by decide)
      have e50 : ρ 50 = .string s3 := hF 50 (by decide)
      clear hF
      unfold Does
      go_simp
      refine (HF1.out _ HW.out.r).mono ?_
      rintro e w2 ⟨v, rfl, hr, hb⟩
      exact ⟨_, rfl, rz_of hr.reads (Nat.le_refl _), HW.out.more hb, hb⟩
    · intro ρ w1 hF hW
      have HW := hidden hW
      clear hW
      have e4 : ρ 4 = .pointer (some ⟨n0, 0, none⟩) := hF 4 (by decide)
      clear hF
      obtain ⟨k0, k1, k2, k3, k4⟩ := HW.out.cells
      unfold Does
      go_simp
      exact ⟨rfl, HW.out, Below.refl _ _⟩
    · intro ρ w1 hF hW
      have HW := hidden hW
      clear hW
      have e3 : ρ 3 = .string s3 := hF 3 (by decide)
      clear hF
      unfold Does
      go_simp
      exact ⟨rfl, HW.out, Below.refl _ _⟩
    · intro ρ w1 hF hW
      have HW := hidden hW
      clear hW
      have e52 : ρ 52 = .agg #[vs, vo, vl, vf, v1] := hF 52 (by decide)
      have e53 : ρ 53 = .string s3 := hF 53 (by decide)
      clear hF
      unfold Does
      go_simp
      refine (HF2.out _ HW.out.r).mono ?_
      rintro e w2 ⟨v, rfl, hr, hb⟩
      exact ⟨_, rfl, rz_of hr.reads (Nat.le_refl _), HW.out.more hb, hb⟩
    · intro ρ w1 hF hW
      have HW := hidden hW
      clear hW
      obtain ⟨a51, c51, e51, h51⟩ : ∃ a c, ρ 51 = .slice a F.length c ∧ RdZ w1.heap.size w1 (.slice a F.length c) F := hF 51 (by decide)
      obtain ⟨a54, c54, e54, h54⟩ : ∃ a c, ρ 54 = .slice a F.length c ∧ RdZ w1.heap.size w1 (.slice a F.length c) F := hF 54 (by decide)
      clear hF
      unfold Does
      go_simp
      refine (HSA.out _ F _ _ h51 h54).mono ?_
      rintro e w2 ⟨rfl, hb⟩
      exact ⟨_, rfl, rfl, HW.out.more hb, hb⟩
    · intro ρ w1 hF hW
      have HW := hidden hW
      clear hW
      have e48 : ρ 48 = .bool true := hF 48 (by decide)
      have e55 : ρ 55 = .bool true := hF 55 (by decide)
      clear hF
      unfold Does
      go_simp
      exact ⟨rfl, HW.out, Below.refl _ _⟩
    · intro ρ w1 hF hW
      have HW := hidden hW
      clear hW
      have e56 : ρ 56 = .bool true := hF 56 (by decide)
      clear hF
      unfold Does
      go_simp
      exact ⟨rfl, HW.out, Below.refl _ _⟩
    · intro ρ w1 hF hW
      have HW := hidden hW
      clear hW
      have e4 : ρ 4 = .pointer (some ⟨n0, 0, none⟩) := hF 4 (by decide)
      clear hF
      obtain ⟨k0, k1, k2, k3, k4⟩ := HW.out.cells
      unfold Does
      go_simp
      exact ⟨rfl, HW.out, Below.refl _ _⟩
    · intro ρ w1 hF hW
      have HW := hidden hW
      clear hW
      have e1 : ρ 1 = .slice a1 len1 cap1 := hF 1 (by decide)
      clear hF
      unfold Does
      go_simp
      exact ⟨rfl, HW.out, Below.refl _ _⟩
    · intro ρ w1 hF hW
      have HW := hidden hW
      clear hW
      have e58 : ρ 58 = .agg #[vs, vo, vl, vf, v1] := hF 58 (by decide)
      have e59 : ρ 59 = .slice a1 len1 cap1 := hF 59 (by decide)
      clear hF
      unfold Does
      go_simp
      refine (HK1.out _ HW.out.r HW.out.z).mono ?_
      rintro e w2 ⟨rfl, hb⟩
      exact ⟨_, rfl, rfl, HW.out.more hb, hb⟩
    · intro ρ w1 hF hW
      have HW := hidden hW
      clear hW
      have e4 : ρ 4 = .pointer (some ⟨n0, 0, none⟩) := hF 4 (by decide)
      clear hF
      obtain ⟨k0, k1, k2, k3, k4⟩ := HW.out.cells
      unfold Does
      go_simp
      exact ⟨rfl, HW.out, Below.refl _ _⟩
    · intro ρ w1 hF hW
      have HW := hidden hW
      clear hW
      have e1 : ρ 1 = .slice a1 len1 cap1 := hF 1 (by decide)
      clear hF
      unfold Does
      go_simp
      exact ⟨rfl, HW.out, Below.refl _ _⟩
    · intro ρ w1 hF hW
      have HW := hidden hW
      clear hW
      have e61 : ρ 61 = .agg #[vs, vo, vl, vf, v1] := hF 61 (by decide)
      have e62 : ρ 62 = .slice a1 len1 cap1 := hF 62 (by decide)
      clear hF
      unfold Does
      go_simp
      refine (HK2.out _ HW.out.r HW.out.z).mono ?_
      rintro e w2 ⟨rfl, hb⟩
      exact ⟨_, rfl, rfl, HW.out.more hb, hb⟩
    · intro ρ w1 hF hW
      have HW := hidden hW
      clear hW
      have e60 : ρ 60 = .int .i64 tk := hF 60 (by decide)
      have e63 : ρ 63 = .int .i64 tk := hF 63 (by decide)
      clear hF
      have hq := HTT.out
      unfold Does
      go_simp
      exact ⟨rfl, HW.out, Below.refl _ _⟩
    · intro ρ w1 hF hW
      have HW := hidden hW
      clear hW
      have e57 : ρ 57 = .bool true := hF 57 (by decide)
      have e64 : ρ 64 = .bool true := hF 64 (by decide)
      clear hF
      unfold Does
      go_simp
      exact ⟨rfl, HW.out, Below.refl _ _⟩
    · intro ρ w1 hF hW
      have HW := hidden hW
      clear hW
      have e65 : ρ 65 = .bool true := hF 65 (by decide)
      clear hF
      unfold Does
      go_simp
      exact ⟨rfl, HW.out, Below.refl _ _⟩
    · intro ρ w1 hF hW
      have HW := hidden hW
      clear hW
      clear hF
      unfold Does
      go_simp
      refine (knows12_calls _ HW.out.tab).mono ?_
      rintro e w2 ⟨rfl, hb⟩
      exact ⟨_, rfl, rfl, HW.out.more hb, hb⟩
    · intro ρ w1 hF hW
      have HW := hidden hW
      clear hW
      have e66 : ρ 66 = .bool true := hF 66 (by decide)
      have e67 : ρ 67 = .bool true := hF 67 (by decide)
      clear hF
      unfold Does
      go_simp
      exact ⟨rfl, HW.out, Below.refl _ _⟩
    · intro ρ w1 hF hW
      have HW := hidden hW
      clear hW
      have e68 : ρ 68 = .bool true := hF 68 (by decide)
      clear hF
      unfold Does
      go_simp
      exact ⟨rfl, HW.out, Below.refl _ _⟩
namespace lawFuseLeads
open Go.ChangeShapes Go.WideShapes Go.ChangeAt Go.RowKit Go.Deep
open Go.ChangeMaps (open_string shut_string)

set_option maxRecDepth 100000 in
theorem lifted (os : Os) (started : os.Started) (H : Type) (enc : TypeId × Value → H) :
    ReturnsInHanded {} Tryd.checked os 7 .any (fun w args => (Rows.fuseLeadsSpec.pre enc Tryd.prog Tryd.f7 Rows.fuseLeadsRow.domain false w args ∧ laidMetH Tryd.prog [("math/bits.deBruijn64tab", Rows.laid_math_bits_deBruijn64tab)] w) ∧ sizedMet enc Tryd.prog Tryd.f7 (OpenSpec.ofChange Rows.fuseLeadsSpec) false w args)
      (Rows.fuseLeadsSpec.post enc Tryd.prog Tryd.f7 false true false false) := by
  refine returnsInHanded_of_change_and (C := Tryd.checked) (X := fun w _ => laidMetH Tryd.prog [("math/bits.deBruijn64tab", Rows.laid_math_bits_deBruijn64tab)] w) (fun _ _ _ hh h => h.of_heap hh) own started (by kernel_rfl) Tryd.func7
    (ChangeSpec.witness_shaped (enc := enc) (C := Tryd.checked) (os := os) (X := fun w _ => laidMetH Tryd.prog [("math/bits.deBruijn64tab", Rows.laid_math_bits_deBruijn64tab)] w) false (World.laidAll Tryd.prog os [("math/bits.deBruijn64tab", Rows.laid_math_bits_deBruijn64tab)]) #[.agg #[.slice none 0 0, .slice none 0 0, .slice none 0 0, .slice none 0 0, .slice none 0 0], .slice none 0 0, .int .u8 0, .string ⟨#[]⟩] 8 (World.laidAll_os _ _ _)
      (World.shaped_of_ZipB (by kernel_rfl) (by kernel_rfl)) (by kernel_rfl) (by kernel_rfl) (by kernel_rfl)
      (by rw [MakeChecks.laidMetH_plain _ _ _ (by kernel_rfl)]; exact laidMet_laidAll _ (by kernel_rfl) (by kernel_rfl))) ?_
  intro W base args ds gs before hval0 hW hcnd hsz hL _
  have hval : ∀ (j : Nat) t v, Tryd.f7.params[j]? = some t → args[j]? = some v → Value.okWide Tryd.prog W .any base t v := hval0
  have hW' : DataW.Whole enc Tryd.prog Tryd.f7.params.toList Rows.fuseLeadsSpec.vars false W args.toList ds gs before := hW
  obtain ⟨p, q, hA0, hV, rfl, hfz, hnd⟩ := hW
  have hA : DataW.TrodAll enc Tryd.prog W 0 (fun _ => true) true Tryd.f7.params.toList args.toList ds p := hA0
  have ht : Tab W := of_laid (by kernel_rfl) hL
  rw [Tryd.params7] at hA hval
  obtain ⟨v0, vs0, d0, ds0, p0, q0, hargs, hd0, hp0, h0, r0⟩ := trodAll_cons hA
  obtain ⟨v1, vs1, d1, ds1, p1, q1, rfl, hd1, hp1, h1, r1⟩ := trodAll_cons r0
  obtain ⟨v2, vs2, d2, ds2, p2, q2, rfl, hd2, hp2, h2, r2⟩ := trodAll_cons r1
  obtain ⟨v3, vs3, d3, ds3, p3, q3, rfl, hd3, hp3, h3, r3⟩ := trodAll_cons r2
  obtain ⟨rfl, _, _⟩ := trodAll_nil r3
  obtain rfl : args = #[v0, v1, v2, v3] := by cases args; simp_all
  obtain ⟨s0a, s0b, s0c, s0d, s0e, z0, rfl, w0⟩ := open_net (hval 0 48 v0 rfl rfl) h0 (fun n hn => by
    have := List.all_eq_true.1 hsz n (DataW.weights_mem_each (j := 0) (t := 48) (d := d0) (by rw [Tryd.params7]; rfl) (by simp [hd0]) n hn)
    simpa using this)
  obtain ⟨a1, len1, cap1, rfl⟩ := okWide_slice Tryd.underlying30 (hval 1 30 v1 rfl rfl)
  obtain ⟨z1, w1⟩ := open_zs h1
  obtain ⟨a2, rfl, _, _, w2⟩ := open_int Tryd.underlying5 (hval 2 5 v2 rfl rfl) h2
  obtain ⟨a3, rfl, _, _, w3⟩ := open_string Tryd.underlying9 (hval 3 9 v3 rfl rfl) h3
  refine (walkFuLeads s0a s0b s0c s0d s0e z0 a1 len1 cap1 z1 a2 a3 W w0 w1 (wf_u8 w2) w3 ht).mono fun e W' ⟨he, hb⟩ => ⟨_, he, ends_true hW' rfl (by kernel_rfl) ?_ (by kernel_rfl) hb⟩
  intro xs hxs
  match xs, hxs with
  | [_, _, _, _], _ => rfl

theorem proved : Rows.FuseLeadsSaid :=
  OpenClaim.holds_of_wide 7 Tryd.f7 rfl rfl rfl rfl rfl rfl rfl ⟨rfl, rfl, rfl, rfl, rfl⟩ rfl rfl rfl rfl rfl (by kernel_rfl) Tryd.func7 (by kernel_rfl)
    (of_decide_eq_true (by kernel_rfl)) (by unfold Func.isWrapper; first | (rw [if_pos (by decide +kernel)]; kernel_rfl) | (rw [if_neg (by decide +kernel)]; exact ⟨rfl, rfl⟩))
    (fun os started H enc _ => lifted os started H enc)

/-- the card: the row, and what it lists tied to the program's text -/
theorem card : Rows.FuseLeadsCardSaid :=
  Claim7.holds_tied_plain_at .later [] [.data] true (true, "2d7a7cdab9648aa92af065527db2f9159c0a253275d1700557e608e94f046fb4") false
    proved (fun _ h => by cases h) (by kernel_rfl) (fun _ h => by cases h) fuseLeads_row_tie rfl ⟨rfl, rfl⟩ (by kernel_rfl) rfl
    (fun f fn hf hfn => by
      obtain rfl : f = 7 := Option.some.inj ((show Tryd.prog.funcNamed "facsimile/facsimilelaw12.FuseLeads" = some 7 by kernel_rfl).symm.trans hf) |>.symm
      obtain rfl : fn = Tryd.f7 := (Option.some.inj (Tryd.func7.symm.trans hfn)).symm
      exact ⟨by kernel_rfl, fun j t ht => by
        rw [Tryd.params7] at ht
        have hm : t ∈ [48, 30, 5, 9] := by simpa using Array.mem_of_getElem? ht
        have hall : ([48, 30, 5, 9].all fun u => !Tryd.prog.wantsStandIn u) = true := by kernel_rfl
        exact (show Tryd.prog.wantsStandIn t = false by simpa using List.all_eq_true.1 hall t hm)⟩)
    (by kernel_rfl)

end lawFuseLeads
end Go.Proofs.YtbokhofdgdcpdaaDoor
