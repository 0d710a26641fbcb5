/- FuRight, FuHave, FuWith, FuJoin, put together. -/
import Derived.Test.YtgaadndhecokfaaMu12
import Derived.Test.YtgaadndhecokfaaMu03
import Derived.Test.YtgaadndhecokfaaMu27
import Derived.Test.YtgaadndhecokfaaMu02
import Derived.Laws.MakeOwn
import Derived.Deep.OwnRows
import Derived.Lib.SmallJoins
/- Contracts of areSpots and Right, and of the reference's spots and Right. -/
namespace Go.Proofs.Ytgaadndhecokfaa
open Go.RowKit Go.Lib Go.Joins
theorem RdZ.bound {B : Nat} {w : World} {a : Option Addr} {n c : Nat} {l : List Int} (h : RdZ B w (.slice a n c) l) : n = l.length ∧ l.length ≤ 9223372036854775807 := by
  obtain ⟨a', cap, e, h1, h2, _, _⟩ := h
  simp only [Value.slice.injEq] at e
  unfold maxLen at h2
  omega
theorem all_drop (p : Int → Bool) (l : List Int) (k : Nat) (hk : k < l.length) : (l.drop k).all p = (p (l.getD k 0) && (l.drop (k + 1)).all p) := by
  rw [List.drop_eq_getElem_cons hk, List.all_cons, List.getD_eq_getElem?_getD, List.getElem?_eq_getElem hk]
  rfl
set_option maxHeartbeats 4000000 in
set_option maxRecDepth 100000 in
theorem rspots_calls {w : World} {v vo vl vf v1 : Value} {sa : Option Addr} {n cs : Nat} {l : List Int} (h : RdZ w.heap.size w v l) : Calls Try.prog 52 #[.agg #[.slice sa n cs, vo, vl, vf, v1], v] w fun e w' => e = .returned (.bool (spotsB l n)) ∧ Below w.heap.size w w' := by
  have HS := hidden (show spotsB l n = ((l.drop 0).all (fun x => decide (0 ≤ x) && decide (x < n)) && upB l) by unfold spotsB; rw [List.drop_zero, Bool.and_comm])
  have hba := (Below.refl w.heap.size w).alloc (Nat.le_refl _) (.cells #[.slice sa n cs, vo, vl, vf, v1] 53)
  have HBA := hidden hba
  have HBX := hidden (net_box w (.slice sa n cs) vo vl vf v1 53)
  have HU := hidden (fun W (hb : Below w.heap.size w W) => rright_calls W v l (h.later hb))
  obtain ⟨a, c, rfl⟩ := h.form
  have hb := h.bound.2
  have HA := hidden (fun W (hb : Below w.heap.size w W) i (hi : i < l.length) => h.atZ hb i hi)
  have HD := hidden (fun k (hk : k < l.length) => all_drop (fun x => decide (0 ≤ x) && decide (x < n)) l k hk)
  have HN := hidden (fun k (hk : l.length ≤ k) => (show (l.drop k).all (fun x => decide (0 ≤ x) && decide (x < (n : Int))) = true by rw [List.drop_eq_nil_of_le hk]; rfl))
  obtain ⟨m, hm⟩ : ∃ m, m = l.length := ⟨_, rfl⟩
  rw [← hm] at HU HA HD HN hb ⊢
  clear h hm hba
  generalize spotsB l n = R at *
  go_enter Try.func52, Try.ntmps52
  go_wp2
  go_loopw [5] (fun i wr => ∃ k : Nat, k ≤ m ∧ i = .int .i64 k ∧ Hid (R = ((l.drop k).all (fun x => decide (0 ≤ x) && decide (x < (n : Int))) && upB l)) ∧ Below (w.heap.size + 1) (w.alloc (.cells #[.slice sa n cs, vo, vl, vf, v1] 53)) wr) (fun i _ => m - (Go.RowKit.intOf i).toNat)
  case atStart => exact ⟨0, by omega, rfl, HS, Below.refl _ _⟩
  case round =>
    obtain ⟨k, hk, rfl, hd, hb2⟩ := hrel
    have HB := hidden hb2
    obtain ⟨b0, b1, b2, b3, b4⟩ := HBX.out wr HB.out
    have HBW := hidden (show Below w.heap.size w wr from HBA.out.trans (hb2.mono (by omega)))
    clear hb2
    by_cases hlt : k < m
    · obtain ⟨b, off, rfl, _, c0⟩ := HA.out wr HBW.out k hlt
      have HK := hidden (HD.out k hlt)
      have hlt' := hlt
      have hkb : IntKind.i64.wrap ((k : Int) + 1) = (k : Int) + 1 := by rw [IntKind.wrap_i64]; omega
      generalize l.getD k 0 = x at *
      by_cases hx : 0 ≤ x
      · have hd0 : decide (x < 0) = false := decide_eq_false (by omega)
        have hd1 : decide (0 ≤ x) = true := decide_eq_true hx
        by_cases hx2 : x < (n : Int)
        · have hd2 : decide ((n : Int) ≤ x) = false := decide_eq_false (by omega)
          have HE := hidden (show R = ((l.drop (k + 1)).all (fun x => decide (0 ≤ x) && decide (x < (n : Int))) && upB l) from by rw [hd.out, HK.out, hd1, decide_eq_true hx2]; simp)
          clear hx hx2 hd HK hd1
          go_wp2
          go_region
          all_goals
            go_wp2
            go_roundw
            case rel => exact ⟨k + 1, by omega, by go_num, HE, below_drawn HB.out 1⟩
            case measure => simp [Go.RowKit.intOf]; omega
        · have hd2 : decide ((n : Int) ≤ x) = true := decide_eq_true (by omega)
          have HE := hidden (show R = false from by rw [hd.out, HK.out, decide_eq_false hx2]; simp)
          clear hx hx2 hd HK hd1
          go_wp2
          go_region
          all_goals
            go_wp2
            go_ret
            exact ⟨ret_b HE.out.symm, below_drawn HBW.out 1⟩
      · have hd0 : decide (x < 0) = true := decide_eq_true (by omega)
        have HE := hidden (show R = false from by rw [hd.out, HK.out, decide_eq_false hx]; simp)
        clear hx hd HK
        go_wp2
        go_region
        all_goals
          go_wp2
          go_ret
          exact ⟨ret_b HE.out.symm, below_drawn HBW.out 1⟩
    · obtain rfl : k = m := by omega
      have HE := hidden (show R = upB l from by rw [hd.out, HN.out _ (Nat.le_refl _), Bool.true_and])
      clear hd
      go_wp2_with fail
      refine (HU.out wr HBW.out).mono ?_
      rintro e w5 ⟨rfl, hb5⟩
      go_wp2
      go_ret
      exact ⟨ret_b HE.out.symm, below_after HBW.out hb5⟩
end Go.Proofs.Ytgaadndhecokfaa

/- Contracts of having and of the reference's with: spots whose set has a byte. -/
namespace Go.Proofs.Ytgaadndhecokfaa
open Go.RowKit Go.Lib Go.Joins
/-- has the set of a spot the byte? -/
def selB (S : List Stp) (b : Nat) (x : Int) : Bool := bitsE (S.getD x.toNat default) b
/-- the four cells of a set, as words of a set of bytes -/
theorem RdS.words {B : Nat} {w w' : World} {a : Option Addr} {n c : Nat} {S : List Stp} (h : RdS B w (.slice a n c) S) (hw : ∀ s ∈ S, s.wide) (hb : Below B w w') (p : Nat) (hp : p < S.length) : ∃ g off, a = some ⟨g, off, none⟩ ∧ g < B ∧ w'.cell? ⟨g, off + p * 4, none⟩ = some (.int .u64 (word (bitsE (S.getD p default)) 0)) ∧ w'.cell? ⟨g, off + p * 4 + 1, none⟩ = some (.int .u64 (word (bitsE (S.getD p default)) 1)) ∧ w'.cell? ⟨g, off + p * 4 + 2, none⟩ = some (.int .u64 (word (bitsE (S.getD p default)) 2)) ∧ w'.cell? ⟨g, off + p * 4 + 3, none⟩ = some (.int .u64 (word (bitsE (S.getD p default)) 3)) := by
  obtain ⟨g, off, e, hg, x0, x1, x2, x3⟩ := h.at hb p hp
  have hwd : (S.getD p default).wide := hw _ (by
    rw [List.getD_eq_getElem?_getD, List.getElem?_eq_getElem hp]
    exact List.getElem_mem _)
  obtain ⟨e0, e1, e2, e3⟩ := bitsE_words hwd
  rw [← e0] at x0
  rw [← e1] at x1
  rw [← e2] at x2
  rw [← e3] at x3
  exact ⟨g, off, e, hg, x0, x1, x2, x3⟩
end Go.Proofs.Ytgaadndhecokfaa

/- Contract of the reference's with; what having answers of a rising list is what with answers. -/
namespace Go.Proofs.Ytgaadndhecokfaa
open Go.RowKit Go.Lib Go.Joins
theorem zup_ext : ∀ {a b : List Int}, a.Pairwise (· < ·) → b.Pairwise (· < ·) → (∀ p, p ∈ a ↔ p ∈ b) → a = b
  | [], [], _, _, _ => rfl
  | [], y :: b, _, _, h => by have := (h y).2 (by simp); simp at this
  | x :: a, [], _, _, h => by have := (h x).1 (by simp); simp at this
  | x :: a, y :: b, ha, hb, h => by
    obtain ⟨ha1, ha2⟩ := List.pairwise_cons.1 ha
    obtain ⟨hb1, hb2⟩ := List.pairwise_cons.1 hb
    have hxy : x = y := by
      have h1 := (h x).1 (by simp)
      have h2 := (h y).2 (by simp)
      simp only [List.mem_cons] at h1 h2
      rcases h1 with h1 | h1
      · exact h1
      · rcases h2 with h2 | h2
        · exact h2.symm
        · have := hb1 x h1; have := ha1 y h2; omega
    subst hxy
    congr 1
    refine zup_ext ha2 hb2 fun p => ?_
    have h1 := h p
    simp only [List.mem_cons] at h1
    constructor
    · intro hp
      have := ha1 p hp
      rcases h1.1 (.inr hp) with h2 | h2
      · omega
      · exact h2
    · intro hp
      have := hb1 p hp
      rcases h1.2 (.inr hp) with h2 | h2
      · omega
      · exact h2
theorem hits_up (G : Nat → Bool) (n : Nat) : (hits G n).Pairwise (· < ·) := List.Pairwise.filter _ List.pairwise_lt_range
theorem spI_up {l : List Nat} (h : l.Pairwise (· < ·)) : (spI l).Pairwise (· < ·) := by
  unfold spI
  rw [List.pairwise_map]
  exact h.imp fun h => by omega
theorem hits_mem (G : Nat → Bool) (n : Nat) (p : Nat) : p ∈ hits G n ↔ p < n ∧ G p = true := by unfold hits; simp
theorem mem_spIZ (x : Int) (l : List Nat) : x ∈ spI l ↔ ∃ p : Nat, x = p ∧ p ∈ l := by
  unfold spI
  rw [List.mem_map]
  exact ⟨fun ⟨a, h, e⟩ => ⟨a, e.symm, h⟩, fun ⟨p, e, h⟩ => ⟨p, h, e.symm⟩⟩
/-- what is said of rising spots below n -/
def withG (S : List Stp) (b : Nat) (l : List Int) (i : Nat) : Bool := decide ((i : Int) ∈ l) && selB S b i
set_option maxHeartbeats 8000000 in
set_option maxRecDepth 100000 in
theorem rwith12_calls {w : World} {v vo vl vf v1 : Value} {sa : Option Addr} {ns cs b : Nat} {S : List Stp} {l : List Int} (hs : RdS w.heap.size w (.slice sa ns cs) S) (hw : ∀ s ∈ S, s.wide) (h : RdZ w.heap.size w v l) (hb : b < 256) (hn : ns ≤ 100000) :
    Calls Try.prog 54 #[.agg #[.slice sa ns cs, vo, vl, vf, v1], v, .int .u8 b] w (RetZ w (spI (hits (withG S b l) ns))) := by
  have hba := (Below.refl w.heap.size w).alloc (Nat.le_refl _) (.cells #[.slice sa ns cs, vo, vl, vf, v1] 53)
  have hbx := net_box w (.slice sa ns cs) vo vl vf v1 53
  obtain ⟨w0, hw0⟩ : ∃ w0, w0 = w.alloc (.cells #[.slice sa ns cs, vo, vl, vf, v1] 53) := ⟨_, rfl⟩
  have hs0 : w0.heap.size = w.heap.size + 1 := by rw [hw0]; simp
  rw [← hw0] at hba hbx
  have HBA := hidden hba
  have HBX := hidden hbx
  have HN0 := hidden (RowZ.lit w0 w0.heap.size rfl #[] rfl)
  have HW0 := hidden hw0
  have HS0 := hidden hs0
  obtain ⟨a, c, rfl⟩ := h.form
  have hns : ns = S.length := by
    obtain ⟨_, _, e, _⟩ := hs
    simp only [Value.slice.injEq] at e
    exact e.2.1
  have HW := hidden (fun W (hb : Below w.heap.size w W) p (hp : p < S.length) => hs.words hw hb p hp)
  have HH := hidden (fun W (hb : Below w.heap.size w W) (i : Nat) => has11_calls (B := W.heap.size) W _ l (i : Int) (h.later hb))
  have H2 := hidden (fun f W => rhas_nat f b W hb)
  have HTT := hidden (fun r => (show spI (hits (withG S b l) (r + 1)) = if withG S b l r = true then spI (hits (withG S b l) r) ++ [(r : Int)] else spI (hits (withG S b l) r) by
    rw [hits_more]
    split
    · rw [spI_more]
    · rfl))
  have HLN := hidden (fun r => (show (spI (hits (withG S b l) r)).length ≤ r by rw [spI_len]; exact hits_len _ r))
  have HWG := hidden (fun i : Nat => (show withG S b l i = (decide ((i : Int) ∈ l) && bitsE (S.getD i default) b) from rfl))
  have HZ := hidden (show spI (hits (withG S b l) 0) = [] by rw [hits_zero, spI_nil])
  rw [← hns] at HW
  obtain ⟨R, hR⟩ : ∃ R, R = fun r => spI (hits (withG S b l) r) := ⟨_, rfl⟩
  have HTT := hidden (fun r => (show R (r + 1) = if withG S b l r = true then R r ++ [(r : Int)] else R r by rw [hR]; exact HTT.out r))
  have HLN := hidden (fun r => (show (R r).length ≤ r by rw [hR]; exact HLN.out r))
  have HZ := hidden (show R 0 = [] by rw [hR]; exact HZ.out)
  rw [show spI (hits (withG S b l) ns) = R ns by rw [hR]]
  obtain ⟨ln, hln⟩ : ∃ ln, ln = l.length := ⟨_, rfl⟩
  rw [← hln] at HH ⊢
  clear h hba hbx hs hw hns hw0 hs0 hR hln
  go_enter Try.func54, Try.ntmps54
  go_wp2
  rw [← HW0.out]
  have hq0 := HS0.out
  go_loopw [7, 8] (fun v i wr => ∃ (k : Nat) (o : Value), k ≤ ns ∧ o = v ∧ i = .int .i64 k ∧ RowZ wr (w.heap.size + 1) o (R k) ∧ Below (w.heap.size + 1) w0 wr) (fun _ i _ => ns - (Go.RowKit.intOf i).toNat)
  case atStart => exact ⟨0, _, by omega, rfl, rfl, by rw [HZ.out]; have := HN0.out; rw [hq0] at this; exact this, by rw [← hq0]; exact (Below.refl _ _).alloc (Nat.le_refl _) _⟩
  case round =>
    clear HN0
    obtain ⟨k, o, hk, rfl, rfl, hG, hb3⟩ := hrel
    have HG := hidden hG
    have HB := hidden hb3
    obtain ⟨b0, b1, b2, b3, b4⟩ := HBX.out wr HB.out
    have HBW := hidden (show Below w.heap.size w wr from HBA.out.trans (hb3.mono (by omega)))
    clear hG hb3
    by_cases hlt : k < ns
    · obtain ⟨g, og, rfl, hg, x0, x1, x2, x3⟩ := HW.out wr HBW.out k hlt
      have HK := hidden (HTT.out k)
      have HGK := hidden (HWG.out k)
      have HHK := hidden (HH.out wr HBW.out k)
      have hlt' := hlt
      have hln := HLN.out k
      obtain ⟨f, hf⟩ : ∃ f, f = bitsE (S.getD k default) := ⟨_, rfl⟩
      rw [← hf] at x0 x1 x2 x3 HGK
      generalize decide ((k : Int) ∈ l) = u at *
      clear hf
      cases u
      case false =>
        have HR := hidden (show R (k + 1) = R k by rw [HK.out, HGK.out]; rfl)
        clear x0 x1 x2 x3
        go_wp2_with fail
        refine HHK.out.mono ?_
        rintro e w5 ⟨rfl, hb5⟩
        have HB5 := hidden (below_then HB.out (by have := HB.out.size; omega) hb5)
        have HG5 := hidden (HG.out.kept hb5)
        clear hb5
        go_wp2
        go_roundw
        case rel => exact ⟨k + 1, _, by omega, rfl, by go_num, by rw [HR.out]; exact HG5.out, HB5.out⟩
        case measure => simp [Go.RowKit.intOf]; omega
      case true =>
        rw [Bool.true_and] at HGK
        have HH2 := hidden (H2.out f)
        have HX := hidden (fun W (hb : Below wr.heap.size wr W) => (show W.cell? ⟨g, og + k * 4, none⟩ = some (.int .u64 (word f 0)) ∧ W.cell? ⟨g, og + k * 4 + 1, none⟩ = some (.int .u64 (word f 1)) ∧ W.cell? ⟨g, og + k * 4 + 2, none⟩ = some (.int .u64 (word f 2)) ∧ W.cell? ⟨g, og + k * 4 + 3, none⟩ = some (.int .u64 (word f 3)) from ⟨(hb.cell (p := ⟨g, og + k * 4, none⟩) (cell_lt x0)).trans x0, (hb.cell (p := ⟨g, og + k * 4 + 1, none⟩) (cell_lt x1)).trans x1, (hb.cell (p := ⟨g, og + k * 4 + 2, none⟩) (cell_lt x2)).trans x2, (hb.cell (p := ⟨g, og + k * 4 + 3, none⟩) (cell_lt x3)).trans x3⟩))
        clear x0 x1 x2 x3
        cases hfb : f b
        case false =>
          rw [hfb] at HGK HH2
          have HR := hidden (show R (k + 1) = R k by rw [HK.out, HGK.out]; rfl)
          clear hfb
          go_wp2_with fail
          refine HHK.out.mono ?_
          rintro e w5 ⟨rfl, hb5⟩
          have HB5 := hidden (below_then HB.out (by have := HB.out.size; omega) hb5)
          have HG5 := hidden (HG.out.kept hb5)
          obtain ⟨x0, x1, x2, x3⟩ := HX.out w5 hb5
          obtain ⟨b0, b1, b2, b3, b4⟩ := HBX.out w5 HB5.out
          clear hb5
          go_wp2_with fail
          refine (HH2.out _).mono ?_
          rintro e w6 ⟨rfl, hb6⟩
          have HB6 := hidden (below_then HB5.out (by have := HB5.out.size; omega) hb6)
          have HG6 := hidden (HG5.out.kept hb6)
          clear hb6
          go_wp2
          go_roundw
          case rel => exact ⟨k + 1, _, by omega, rfl, by go_num, by rw [HR.out]; exact HG6.out, HB6.out⟩
          case measure => simp [Go.RowKit.intOf]; omega
        case true =>
          rw [hfb] at HGK HH2
          have HR := hidden (show R (k + 1) = R k ++ [(k : Int)] by rw [HK.out, HGK.out]; rfl)
          obtain ⟨q, hq⟩ : ∃ q, q = (R k).length := ⟨_, rfl⟩
          rw [← hq] at hln
          have HM := hidden hq.symm
          clear hfb hq
          go_wp2_with fail
          refine HHK.out.mono ?_
          rintro e w5 ⟨rfl, hb5⟩
          have HB5 := hidden (below_then HB.out (by have := HB.out.size; omega) hb5)
          have HG5 := hidden (HG.out.kept hb5)
          obtain ⟨x0, x1, x2, x3⟩ := HX.out w5 hb5
          obtain ⟨b0, b1, b2, b3, b4⟩ := HBX.out w5 HB5.out
          clear hb5
          go_wp2_with fail
          refine (HH2.out _).mono ?_
          rintro e w6 ⟨rfl, hb6⟩
          have HB6 := hidden (below_then HB5.out (by have := HB5.out.size; omega) hb6)
          have HG6 := hidden (HG5.out.kept hb6)
          have HAA := hidden (HG6.out.kept ((Below.refl w6.heap.size w6).alloc (Nat.le_refl _) (.cells #[.int .i64 (k : Int)] 3)))
          have HBB := hidden (HB6.out.alloc (by have := HB6.out.size; omega) (.cells #[.int .i64 (k : Int)] 3))
          have HBL := hidden (show w.heap.size + 1 ≤ (w6.alloc (.cells #[.int .i64 (k : Int)] 3)).heap.size by have := HB6.out.size; simp; omega)
          clear hb6
          go_wp2_with (at_builtin; refine app_z rfl _ _ rfl rfl HAA.out rfl (heap_alloc_new w6 _) HM.out (by omega) HBL.out ?_; intro g' c3 w7 hr7 hg7 hb7; have HR7 := hidden hr7; have HB7 := hidden (HBB.out.trans hb7); clear hr7 hg7 hb7)
          go_roundw
          case rel => exact ⟨k + 1, _, by omega, rfl, by go_num, by rw [HR.out]; exact HR7.out, HB7.out⟩
          case measure => simp [Go.RowKit.intOf]; omega
    · obtain rfl : k = ns := by omega
      go_wp2
      go_ret
      exact ⟨_, rfl, HG.out.lower (by omega), HBW.out⟩
end Go.Proofs.Ytgaadndhecokfaa

/- Contract of joined: what is in any of some lists. -/
namespace Go.Proofs.Ytgaadndhecokfaa
open Go.RowKit Go.Lib Go.Joins
end Go.Proofs.Ytgaadndhecokfaa
