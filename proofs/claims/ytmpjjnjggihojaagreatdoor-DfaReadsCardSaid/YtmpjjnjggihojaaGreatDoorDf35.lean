/- DfKnows, SpOpen, FuOpenN, FuFew, put together. -/
import Derived.Test.YtmpjjnjggihojaaGreatDoorDf31
import Derived.Test.YtmpjjnjggihojaaGreatDoorDf33
import Derived.Test.YtmpjjnjggihojaaGreatDoorDf34
import Derived.Test.YtmpjjnjggihojaaGreatDoorTie
import Derived.Test.YtmpjjnjggihojaaGreatDoorCards
import Derived.Laws.IdiomArrays
import Derived.Deep.Slices
import Derived.LaidMore
import Derived.Lay
import Derived.Lib.LaidTab
import Derived.SevenTiedAt
import Derived.Stop.Joined
import Derived.Test.YtmpjjnjggihojaaGreatDoorDf12
import Derived.SizedLaws
import Derived.Test.YtmpjjnjggihojaaGreatDoorDf28
/- The chapter's machine asked what it should answer. -/
namespace Go.Proofs.YtmpjjnjggihojaaGreatDoor
open Go.RowKit Go.Lib Go.Joins Go.Maps

theorem below_thenK {n : Nat} {a b c : World} (h : Below n a b) (hb : Below b.heap.size b c) (hn : n ≤ b.heap.size) : Below n a c := below_then h hn hb
set_option maxHeartbeats 8000000 in
set_option maxRecDepth 100000 in
theorem knows14_calls (w : World) (hp : Pow w) : Calls Tryz.prog 8 #[] w fun e w' => e = .returned (.bool true) ∧ Below w.heap.size w w' := by
  have HPW := hidden (tabBelow_of_tabIs hp)
  have hal := run_zero_dfa
  clear hp
  go_enter Tryz.func8, Tryz.ntmps8
  go_wp2_with fail
  refine (ap_read _).mono ?_
  rintro e w1 ⟨⟨v1, rfl, hr1⟩, hb1⟩
  have HB1 := hidden hb1
  have HR1 := hidden hr1
  obtain ⟨a1, c1, rfl⟩ : ∃ a c, v1 = .slice a 2 c := by
    rcases ownsRow_forms hr1 with ⟨rfl, h0⟩ | ⟨g, cap, rfl⟩
    · cases h0
    · exact ⟨_, _, rfl⟩
  clear hr1 hb1
  go_wp2_with fail
  refine (ab_read _).mono ?_
  rintro e w2 ⟨⟨v2, rfl, hr2⟩, hb2⟩
  have HR2 := hidden hr2
  have HR1b := hidden (HR1.out.kept2 hb2)
  have HB2 := hidden (below_after HB1.out hb2)
  obtain ⟨a2, c2, rfl⟩ : ∃ a c, v2 = .slice a 3 c := by
    rcases ownsRow_forms hr2 with ⟨rfl, h0⟩ | ⟨g, cap, rfl⟩
    · cases h0
    · exact ⟨_, _, rfl⟩
  clear hr2 hb2
  go_wp2_with fail
  refine (rFuse_calls (toks_two w2 _ _ _ _ _ _ _ _ rfl (HR1b.out.reads.below fun b hb => ⟨hb.2, rfl⟩) (HR2.out.reads.below fun b hb => ⟨hb.2, rfl⟩)) (fun b hb => hb) two_few).mono ?_
  rintro e w3 ⟨vs, vo, vl, vf, v1, rfl, hr3, hb3⟩
  have HB3 := hidden (below_then (HB2.out.alloc HB2.out.size _) (by have := HB2.out.size; simp; omega) hb3)
  have HR3 := hidden hr3
  clear hr3 hb3 HR1 HR2 HR1b
  unfold netV
  dsimp only
  go_wp2_with fail
  refine (Build_calls 100 HR3.out (fuseM_wide two_few.wide) (by rw [two_len.1]; omega) (HPW.out w3 HB3.out)).mono ?_
  rintro e w4 ⟨vn, vl4, rfl, hr4, hb4⟩
  rw [two14_n, two14_err]
  rw [two14_m] at hr4 ⊢
  obtain ⟨D, hD⟩ : ∃ D, D = machM (fuseM twoT) 4 := ⟨_, rfl⟩
  have HA := hidden (show runD D [97] = 1 by rw [hD]; exact two14_a)
  have HAA := hidden (show runD D [97, 97] = 2 by rw [hD]; exact two14_aa)
  have HAB := hidden (show runD D [97, 98] = 3 by rw [hD]; exact two14_ab)
  have HBB := hidden (show runD D [98] = -1 by rw [hD]; exact two14_b)
  have HL3 := hidden (show labelD D 3 = 1 by rw [hD]; exact two14_3)
  rw [← hD] at hr4 ⊢
  clear hD
  have HB4 := hidden (below_then HB3.out HB3.out.size hb4)
  have HR4 := hidden hr4
  obtain ⟨an, cn, rfl⟩ := hr4.next.form
  obtain ⟨al, cl, rfl⟩ := hr4.label.form
  clear hr4 hb4 HB3 HR3
  dsimp only
  go_wp2_with (first
    | (refine store_dfa rfl (x := .tmp 7) (y := .tmp 28) rfl rfl rfl (DfaAt.new w4 zG 0 (.slice none 0 0) (.slice none 0 0)) rfl rfl ?_; intro w5 hA5 hg5 hs5; have HA5 := hidden hA5; have HB5 := hidden ((HB4.out.alloc HB4.out.size (.cells (dfaC zG 0 (.slice none 0 0) (.slice none 0 0)) 32)).grown hg5 (by have := HB4.out.size; simp; omega) (by intro k hk; simp only [Option.some.injEq] at hk; have := HB4.out.size; omega)); have HB45 := hidden (((Below.refl w4.heap.size w4).alloc (Nat.le_refl _) (.cells (dfaC zG 0 (.slice none 0 0) (.slice none 0 0)) 32)).grown hg5 (by simp) (by intro k hk; simp only [Option.some.injEq] at hk; omega)); clear hA5 hg5 hs5)
    | fail)
  have HRUN := hidden (fun (W : World) (hb : Below w4.heap.size w4 W) (s : ByteArray) (hs : s.size ≤ maxLen) => run14_calls s (HR4.out.below hb hb.size) hs)
  have HLAB := hidden (fun (W : World) (hb : Below w4.heap.size w4 W) (s : Int) => label_calls s (HR4.out.below hb hb.size))
  obtain ⟨RB, hRB⟩ : ∃ b, b = w4.heap.size := ⟨_, rfl⟩
  have HRB := hidden hRB
  rw [← hRB] at HA5 ⊢
  have HX5 := hidden (show Below w4.heap.size w4 w5 ∧ DfaAt w5 RB D.cls D.width (.slice an D.next.length cn) (.slice al D.label.length cl) from ⟨HB45.out, HA5.out⟩)
  clear HB45 HA5 hal hRB
  refine wpl_any (x := .tmp 7) rfl rfl (run_load_dfa HX5.out.2) ?_
  simp only [Act.put, List.setIfInBounds_toArray, List.set_cons_zero, List.set_cons_succ]
  go_wp2_with fail
  refine (HRUN.out _ HX5.out.1 ⟨#[97]⟩ (by decide)).mono ?_
  rintro e w6 ⟨rfl, hb6⟩
  rw [show (⟨#[97]⟩ : ByteArray).data.toList.map (·.toNat) = [97] from rfl, HA.out]
  have HX6 := hidden (And.intro (below_then HX5.out.1 HX5.out.1.size hb6) (HX5.out.2.below hb6))
  have HB6 := hidden (below_then HB5.out HB5.out.size hb6)
  clear hb6 HX5 HB5
  go_wp2_with fail
  refine wpl_any (x := .tmp 7) rfl rfl (run_load_dfa HX6.out.2) ?_
  simp only [Act.put, List.setIfInBounds_toArray, List.set_cons_zero, List.set_cons_succ]
  go_wp2_with fail
  refine (HRUN.out _ HX6.out.1 ⟨#[97, 97]⟩ (by decide)).mono ?_
  rintro e w7 ⟨rfl, hb7⟩
  rw [show (⟨#[97, 97]⟩ : ByteArray).data.toList.map (·.toNat) = [97, 97] from rfl, HAA.out]
  have HX7 := hidden (And.intro (below_then HX6.out.1 HX6.out.1.size hb7) (HX6.out.2.below hb7))
  have HB7 := hidden (below_then HB6.out HB6.out.size hb7)
  clear hb7 HX6 HB6
  go_wp2_with fail
  refine wpl_any (x := .tmp 7) rfl rfl (run_load_dfa HX7.out.2) ?_
  simp only [Act.put, List.setIfInBounds_toArray, List.set_cons_zero, List.set_cons_succ]
  go_wp2_with fail
  refine (HRUN.out _ HX7.out.1 ⟨#[97, 98]⟩ (by decide)).mono ?_
  rintro e w8 ⟨rfl, hb8⟩
  rw [show (⟨#[97, 98]⟩ : ByteArray).data.toList.map (·.toNat) = [97, 98] from rfl, HAB.out]
  have HX8 := hidden (And.intro (below_then HX7.out.1 HX7.out.1.size hb8) (HX7.out.2.below hb8))
  have HB8 := hidden (below_then HB7.out HB7.out.size hb8)
  clear hb8 HX7 HB7
  go_wp2_with fail
  refine wpl_any (x := .tmp 7) rfl rfl (run_load_dfa HX8.out.2) ?_
  simp only [Act.put, List.setIfInBounds_toArray, List.set_cons_zero, List.set_cons_succ]
  go_wp2_with fail
  refine (HRUN.out _ HX8.out.1 ⟨#[98]⟩ (by decide)).mono ?_
  rintro e w9 ⟨rfl, hb9⟩
  rw [show (⟨#[98]⟩ : ByteArray).data.toList.map (·.toNat) = [98] from rfl, HBB.out]
  have HX9 := hidden (And.intro (below_then HX8.out.1 HX8.out.1.size hb9) (HX8.out.2.below hb9))
  have HB9 := hidden (below_then HB8.out HB8.out.size hb9)
  clear hb9 HX8 HB8
  go_wp2_with fail
  refine wpl_any (x := .tmp 7) rfl rfl (run_load_dfa HX9.out.2) ?_
  simp only [Act.put, List.setIfInBounds_toArray, List.set_cons_zero, List.set_cons_succ]
  go_wp2_with fail
  refine (HLAB.out _ HX9.out.1 3).mono ?_
  rintro e w10 ⟨rfl, hb10⟩
  rw [HL3.out]
  have HB10 := hidden (below_then HB9.out HB9.out.size hb10)
  clear hb10
  go_wp2
  go_ret
  exact ⟨rfl, HB10.out⟩
end Go.Proofs.YtmpjjnjggihojaaGreatDoor

/- What comes in (steps), the listed table as it is laid, the card out of the row. -/
namespace Go.Proofs.YtmpjjnjggihojaaGreatDoor
open Go.ChangeShapes Go.WideShapes Go.ChangeAt Go.RowKit Go.Deep Go.Joins
set_option maxRecDepth 100000

/-- the numbers of a step fit their types -/
def Stp.fit (s : Stp) : Prop := (-9223372036854775808 ≤ s.k ∧ s.k ≤ 9223372036854775807) ∧ (0 ≤ s.a ∧ s.a ≤ 18446744073709551615) ∧ (0 ≤ s.b ∧ s.b ≤ 18446744073709551615) ∧ (0 ≤ s.c ∧ s.c ≤ 18446744073709551615) ∧ (0 ≤ s.d ∧ s.d ≤ 18446744073709551615)
theorem list5 {α : Type} (l : List α) (h : l.length = 5) : ∃ a b c d e, l = [a, b, c, d, e] := by
  match l, h with
  | [a, b, c, d, e], _ => exact ⟨a, b, c, d, e, rfl⟩
theorem list4 {α : Type} (l : List α) (h : l.length = 4) : ∃ a b c d, l = [a, b, c, d] := by
  match l, h with
  | [a, b, c, d], _ => exact ⟨a, b, c, d, rfl⟩
theorem wf_u64b {n : Int} (h : (Lit.int .u64 n).wf = true) : 0 ≤ n ∧ n ≤ 18446744073709551615 := by
  have := bounds_u64 h
  omega
theorem trod_four {H : Type} {enc : TypeId × Value → H} {w : World} {base : Nat} {sp : Nat → Bool} {hd : Bool} {fuel : Nat} {c0 c1 c2 c3 : Value} {x : DataW H × List MemPlace} (h : DataW.trod enc Tryz.prog w base sp hd fuel 74 [c0, c1, c2, c3] = some x) :
    ∃ a b c d : Int, c0 = .int .u64 a ∧ c1 = .int .u64 b ∧ c2 = .int .u64 c ∧ c3 = .int .u64 d ∧ (0 ≤ a ∧ a ≤ 18446744073709551615) ∧ (0 ≤ b ∧ b ≤ 18446744073709551615) ∧ (0 ≤ c ∧ c ≤ 18446744073709551615) ∧ (0 ≤ d ∧ d ≤ 18446744073709551615) := by
  obtain ⟨y0, y1, y2, y3, m, hx, h0, h1, h2, h3⟩ := trod_array4 Tryz.underlying74 (by kernel_rfl) h
  obtain ⟨x0, e0, rfl, w0⟩ := DataW.trod_int Tryz.underlying72 h0
  obtain ⟨x1, e1, rfl, w1⟩ := DataW.trod_int Tryz.underlying72 h1
  obtain ⟨x2, e2, rfl, w2⟩ := DataW.trod_int Tryz.underlying72 h2
  obtain ⟨x3, e3, rfl, w3⟩ := DataW.trod_int Tryz.underlying72 h3
  simp at e0 e1 e2 e3
  exact ⟨x0, x1, x2, x3, e0, e1, e2, e3, wf_u64b w0, wf_u64b w1, wf_u64b w2, wf_u64b w3⟩
theorem trod_stp {H : Type} {enc : TypeId × Value → H} {w : World} {base : Nat} {sp : Nat → Bool} {hd : Bool} {fuel : Nat} {cs : List Value} {x : DataW H × List MemPlace} (hl : cs.length = 5) (h : DataW.trod enc Tryz.prog w base sp hd fuel 97 cs = some x) :
    ∃ s : Stp, cs = s.cells ∧ s.fit := by
  obtain ⟨c0, c1, c2, c3, c4, rfl⟩ := list5 cs hl
  obtain ⟨y0, y1, n, _, _, h0, h1⟩ := trod_struct2 Tryz.underlying97 h
  have ck : Tryz.prog.cellsOf 95 = 1 := by kernel_rfl
  have cs : Tryz.prog.cellsOf 74 = 4 := by kernel_rfl
  simp [ck, cs] at h0 h1
  obtain ⟨k, e0, _, w0⟩ := DataW.trod_int Tryz.underlying95 h0
  simp at e0
  obtain ⟨a, b, c, d, rfl, rfl, rfl, rfl, f1, f2, f3, f4⟩ := trod_four h1
  exact ⟨⟨k, a, b, c, d⟩, by rw [e0]; rfl, wf_i64 w0, f1, f2, f3, f4⟩
theorem open_slX {H : Type} {enc : TypeId × Value → H} {W : World} {v : Value} {fuel : Nat} {x : DataW H × List MemPlace} (h : DataW.trod enc Tryz.prog W 0 (fun _ => true) true fuel 47 [v] = some x) :
    ∃ L, SlX (fun b => b < W.heap.size) W v L ∧ ∀ s ∈ L, s.fit := by
  have hc : Tryz.prog.cellsOf 97 = 5 := by kernel_rfl
  rcases open_slice Tryz.underlying47 h with ⟨hcs, _⟩ | ⟨ad, len, cap, m, n, D, Pl, hcs, _, hl, hm, hmm, _, hi⟩
  · simp at hcs
    subst hcs
    exact ⟨[], ⟨none, 0, rfl, Nat.le_refl _, by decide, fun _ => rfl, rfl, fun h => absurd h (by simp)⟩, fun s hs => by cases hs⟩
  · simp at hcs
    subst hcs
    have hm' : m = cap := by simpa using hmm
    subst hm'
    have each : ∀ i, i < len → ∃ s : Stp, (∀ j u, s.cells[j]? = some u → W.cell? (ad.add (i * 5 + j)) = some u) ∧ s.fit := fun i hi' => by
      obtain ⟨cs', hcs', ht⟩ := hi i (by omega)
      rw [hc] at hcs'
      obtain ⟨_, hlen, hcell⟩ := World.cells?_some hcs'
      obtain ⟨s, rfl, hf⟩ := trod_stp hlen ht
      refine ⟨s, fun j u hj => ?_, hf⟩
      have hj' : j < 5 := by
        have := (List.getElem?_eq_some_iff.1 hj).1
        simpa [Stp.cells] using this
      have := hcell j hj'
      rw [Go.Deep.add_add] at this
      rw [this]
      exact hj
    obtain ⟨q, hq⟩ := choose_lt each
    have hlen : ((List.range len).map q).length = len := by simp
    refine ⟨(List.range len).map q, ⟨some ad, m, by rw [hlen], by rw [hlen]; exact hl, hm, (fun e => by cases e), ?_⟩, fun s hs => ?_⟩
    · rw [hlen]
      refine ⟨hlen, fun hp => ?_⟩
      obtain ⟨b, off, spot⟩ := ad
      have h0 := (hq 0 hp).1 0 _ rfl
      have hspot : spot = none := by simpa [Addr.add] using World.cell?_spot h0
      subst hspot
      rw [Addr.add_lit] at h0
      refine ⟨b, off, rfl, cell_lt h0, fun i hi' => ?_⟩
      have hg : ((List.range len).map q).getD i default = q i := by simp [List.getD_eq_getElem?_getD, hi']
      rw [hg]
      have := fun j u hj => by
        have h2 := (hq i hi').1 j u hj
        rwa [Addr.add_lit] at h2
      exact ⟨this 0 _ rfl, this 1 _ rfl, this 2 _ rfl, this 3 _ rfl, this 4 _ rfl⟩
    · obtain ⟨i, hi', rfl⟩ := List.mem_map.1 hs
      exact (hq i (List.mem_range.1 hi')).2
theorem fit_wide {s : Stp} (h : s.fit) : s.wide := h.2
theorem SlX.later {w W : World} {v : Value} {L : List Stp} (h : SlX (fun b => b < w.heap.size) w v L) (hb : Below w.heap.size w W) : SlX (fun b => b < W.heap.size) W v L := h.below fun b hlt => ⟨Nat.lt_of_lt_of_le hlt hb.size, hb.block b hlt⟩
theorem SlX.len {C : Nat → Prop} {w : World} {a : Option Addr} {l c : Nat} {L : List Stp} (h : SlX C w (.slice a l c) L) : l = L.length := by
  obtain ⟨_, _, e, _⟩ := h
  simp only [Value.slice.injEq] at e
  exact e.2.1
end Go.Proofs.YtmpjjnjggihojaaGreatDoor

/- A net that came in, by value. -/
namespace Go.Proofs.YtmpjjnjggihojaaGreatDoor
open Go.ChangeShapes Go.WideShapes Go.ChangeAt Go.RowKit Go.Deep Go.Joins
set_option maxRecDepth 100000
/-- a slice, each of whose elements is of a kind -/
theorem open_kind {H : Type} {enc : TypeId × Value → H} {W : World} {t e : TypeId} {k fuel : Nat} {v : Value} {x : DataW H × List MemPlace} (El : List Value → Prop) (ht : Tryz.prog.underlying t = some (.slice e)) (hc : Tryz.prog.cellsOf e = k) (hk : 0 < k)
    (hel : ∀ n cs y, cs.length = k → DataW.trod enc Tryz.prog W 0 (fun _ => true) true n e cs = some y → El cs) (h : DataW.trod enc Tryz.prog W 0 (fun _ => true) true fuel t [v] = some x) :
    ∃ a len cap, v = .slice a len cap ∧ len ≤ cap ∧ cap ≤ maxLen ∧ (a = none → cap = 0) ∧ (len = 0 ∨ ∃ es sp, x.1 = .slice es sp ∧ es.length = len) ∧ (0 < len → ∃ b off, a = some ⟨b, off, none⟩ ∧ b < W.heap.size ∧ ∀ i, i < len → ∃ cs, cs.length = k ∧ El cs ∧ ∀ j u, cs[j]? = some u → W.cell? ⟨b, off + i * k + j, none⟩ = some u) := by
  rcases open_slice ht h with ⟨hcs, _⟩ | ⟨ad, len, cap, m, n, D, Pl, hcs, _, hl, hm, hmm, hx, hi⟩
  · simp at hcs
    exact ⟨none, 0, 0, hcs, Nat.le_refl _, by decide, fun _ => rfl, .inl rfl, fun h => absurd h (by decide)⟩
  · simp at hcs
    have hm' : m = cap := by simpa using hmm
    subst hm'
    refine ⟨some ad, len, m, hcs, hl, hm, (fun e => by cases e), .inr ⟨_, _, by rw [hx], by simp⟩, fun hp => ?_⟩
    have each : ∀ i, i < len → ∃ cs : List Value, cs.length = k ∧ El cs ∧ ∀ j u, cs[j]? = some u → W.cell? (ad.add (i * k + j)) = some u := fun i hi' => by
      obtain ⟨cs', hcs', htr⟩ := hi i (by omega)
      rw [hc] at hcs'
      obtain ⟨_, hlen, hcell⟩ := World.cells?_some hcs'
      refine ⟨cs', hlen, hel _ _ _ hlen htr, fun j u hj => ?_⟩
      have hj' : j < k := by have := (List.getElem?_eq_some_iff.1 hj).1; omega
      have := hcell j hj'
      rw [Go.Deep.add_add] at this
      rw [this]
      exact hj
    obtain ⟨b, off, spot⟩ := ad
    have hspot : spot = none := by
      obtain ⟨cs, h1, _, h3⟩ := each 0 hp
      have h0 := h3 0 cs[0] (List.getElem?_eq_getElem (by omega))
      simpa [Addr.add] using World.cell?_spot h0
    subst hspot
    refine ⟨b, off, rfl, ?_, fun i hi' => ?_⟩
    · obtain ⟨cs, h1, _, h3⟩ := each 0 hp
      have h0 := h3 0 cs[0] (List.getElem?_eq_getElem (by omega))
      rw [Addr.add_lit] at h0
      exact cell_lt h0
    · obtain ⟨cs, h1, h2, h3⟩ := each i hi'
      refine ⟨cs, h1, h2, fun j u hj => ?_⟩
      have := h3 j u hj
      rwa [Addr.add_lit, ← Nat.add_assoc] at this
theorem sized_len {H : Type} {t e : TypeId} {d : DataW H} {len : Nat} (ht : Tryz.prog.underlying t = some (.slice e)) (hb : 0 < Tryz.prog.bytesOf e) (h : len = 0 ∨ ∃ es sp, d = .slice es sp ∧ es.length = len) (hw : ∀ n ∈ d.weights Tryz.prog t, n ≤ reachBytes) : len ≤ 140737488351232 := by
  rcases h with rfl | ⟨es, sp, rfl, rfl⟩
  · omega
  · have := hw ((es.length + sp.length) * Tryz.prog.bytesOf e) (by simp [DataW.weights, ht])
    have h2 : es.length * 1 ≤ (es.length + sp.length) * Tryz.prog.bytesOf e := Nat.mul_le_mul (by omega) hb
    unfold reachBytes at this
    omega
section
variable {H : Type} {enc : TypeId × Value → H} {W : World} {fuel : Nat} {v : Value} {x : DataW H × List MemPlace}
theorem open_rdZ {t : TypeId} (ht : Tryz.prog.underlying t = some (.slice 3)) (h : DataW.trod enc Tryz.prog W 0 (fun _ => true) true fuel t [v] = some x) : ∃ l, RdZ W.heap.size W v l ∧ (l.length = 0 ∨ ∃ es sp, x.1 = .slice es sp ∧ es.length = l.length) := by
  obtain ⟨a, len, cap, rfl, h1, h2, h3, h4, h5⟩ := open_kind (k := 1) (fun cs => ∃ z, cs = [.int .i64 z]) ht (by kernel_rfl) (by decide) (fun n cs y _ hy => by
    obtain ⟨z, e, _⟩ := DataW.trod_int Tryz.underlying3 hy
    exact ⟨z, e⟩) h
  by_cases hp : 0 < len
  · obtain ⟨b, off, rfl, hb, hc⟩ := h5 hp
    obtain ⟨q, hq⟩ := choose_lt (p := fun i z => W.cell? ⟨b, off + i, none⟩ = some (.int .i64 z)) fun i hi => by
      obtain ⟨cs, _, ⟨z, rfl⟩, hcell⟩ := hc i hi
      exact ⟨z, by simpa using hcell 0 _ rfl⟩
    refine ⟨(List.range len).map q, ⟨_, cap, by rw [List.length_map, List.length_range], by simpa using h1, h2, (fun e => by cases e), fun _ => ⟨b, off, rfl, hb, fun i hi => ?_⟩⟩, by simpa using h4⟩
    have hi' : i < len := by simpa using hi
    rw [hq i hi']
    simp [List.getD_eq_getElem?_getD, hi']
  · obtain rfl : len = 0 := by omega
    exact ⟨[], ⟨a, cap, rfl, h1, h2, h3, fun h => absurd h (by simp)⟩, .inl rfl⟩
theorem open_rdB {t : TypeId} (ht : Tryz.prog.underlying t = some (.slice 4)) (h : DataW.trod enc Tryz.prog W 0 (fun _ => true) true fuel t [v] = some x) : ∃ l, RdB W.heap.size W v l ∧ (l.length = 0 ∨ ∃ es sp, x.1 = .slice es sp ∧ es.length = l.length) := by
  obtain ⟨a, len, cap, rfl, h1, h2, h3, h4, h5⟩ := open_kind (k := 1) (fun cs => ∃ z, cs = [.bool z]) ht (by kernel_rfl) (by decide) (fun n cs y _ hy => by
    obtain ⟨z, e, _⟩ := DataW.trod_bool Tryz.underlying4 hy
    exact ⟨z, e⟩) h
  by_cases hp : 0 < len
  · obtain ⟨b, off, rfl, hb, hc⟩ := h5 hp
    obtain ⟨q, hq⟩ := choose_lt (p := fun i z => W.cell? ⟨b, off + i, none⟩ = some (.bool z)) fun i hi => by
      obtain ⟨cs, _, ⟨z, rfl⟩, hcell⟩ := hc i hi
      exact ⟨z, by simpa using hcell 0 _ rfl⟩
    refine ⟨(List.range len).map q, ⟨_, cap, by rw [List.length_map, List.length_range], by simpa using h1, h2, (fun e => by cases e), fun _ => ⟨b, off, rfl, hb, fun i hi => ?_⟩⟩, by simpa using h4⟩
    have hi' : i < len := by simpa using hi
    rw [hq i hi']
    simp [List.getD_eq_getElem?_getD, hi']
  · obtain rfl : len = 0 := by omega
    exact ⟨[], ⟨a, cap, rfl, h1, h2, h3, fun h => absurd h (by simp)⟩, .inl rfl⟩
theorem open_rdS {t : TypeId} (ht : Tryz.prog.underlying t = some (.slice 74)) (h : DataW.trod enc Tryz.prog W 0 (fun _ => true) true fuel t [v] = some x) : ∃ S, RdS W.heap.size W v S ∧ (∀ s ∈ S, s.wide) ∧ (S.length = 0 ∨ ∃ es sp, x.1 = .slice es sp ∧ es.length = S.length) := by
  obtain ⟨a, len, cap, rfl, h1, h2, h3, h4, h5⟩ := open_kind (k := 4) (fun cs => ∃ s : Stp, cs = [.int .u64 s.a, .int .u64 s.b, .int .u64 s.c, .int .u64 s.d] ∧ s.wide) ht (by kernel_rfl) (by decide) (fun n cs y hl hy => by
    obtain ⟨c0, c1, c2, c3, rfl⟩ := list4 cs hl
    obtain ⟨a, b, c, d, rfl, rfl, rfl, rfl, f1, f2, f3, f4⟩ := trod_four hy
    exact ⟨⟨1, a, b, c, d⟩, rfl, f1, f2, f3, f4⟩) h
  by_cases hp : 0 < len
  · obtain ⟨b, off, rfl, hb, hc⟩ := h5 hp
    obtain ⟨q, hq⟩ := choose_lt (p := fun i (s : Stp) => s.wide ∧ W.cell? ⟨b, off + i * 4, none⟩ = some (.int .u64 s.a) ∧ W.cell? ⟨b, off + i * 4 + 1, none⟩ = some (.int .u64 s.b) ∧ W.cell? ⟨b, off + i * 4 + 2, none⟩ = some (.int .u64 s.c) ∧ W.cell? ⟨b, off + i * 4 + 3, none⟩ = some (.int .u64 s.d)) fun i hi => by
      obtain ⟨cs, _, ⟨s, rfl, hw⟩, hcell⟩ := hc i hi
      exact ⟨s, hw, by simpa using hcell 0 _ rfl, hcell 1 _ rfl, hcell 2 _ rfl, hcell 3 _ rfl⟩
    refine ⟨(List.range len).map q, ⟨_, cap, by rw [List.length_map, List.length_range], by simpa using h1, h2, (fun e => by cases e), fun _ => ⟨b, off, rfl, hb, fun i hi => ?_⟩⟩, fun s hs => ?_, by simpa using h4⟩
    · have hi' : i < len := by simpa using hi
      have hg : ((List.range len).map q).getD i default = q i := by simp [List.getD_eq_getElem?_getD, hi']
      rw [hg]
      exact (hq i hi').2
    · obtain ⟨i, hi, rfl⟩ := List.mem_map.1 hs
      exact (hq i (List.mem_range.1 hi)).1
  · obtain rfl : len = 0 := by omega
    exact ⟨[], ⟨a, cap, rfl, h1, h2, h3, fun h => absurd h (by simp)⟩, (fun s hs => by cases hs), .inl rfl⟩
theorem open_rdZZ {t : TypeId} (ht : Tryz.prog.underlying t = some (.slice 23)) (h : DataW.trod enc Tryz.prog W 0 (fun _ => true) true fuel t [v] = some x) : ∃ l, RdZZ W.heap.size W v l := by
  obtain ⟨a, len, cap, rfl, h1, h2, h3, h4, h5⟩ := open_kind (k := 1) (fun cs => ∃ u l, cs = [u] ∧ RdZ W.heap.size W u l) ht (by kernel_rfl) (by decide) (fun n cs y hl hy => by
    match cs, hl with
    | [u], _ =>
      obtain ⟨l, hl, _⟩ := open_rdZ Tryz.underlying23 hy
      exact ⟨u, l, rfl, hl⟩) h
  by_cases hp : 0 < len
  · obtain ⟨b, off, rfl, hb, hc⟩ := h5 hp
    obtain ⟨q, hq⟩ := choose_lt (p := fun i (l : List Int) => ∃ u, W.cell? ⟨b, off + i, none⟩ = some u ∧ RdZ W.heap.size W u l) fun i hi => by
      obtain ⟨cs, _, ⟨u, l, rfl, hr⟩, hcell⟩ := hc i hi
      exact ⟨l, u, by simpa using hcell 0 _ rfl, hr⟩
    refine ⟨(List.range len).map q, ⟨_, cap, by rw [List.length_map, List.length_range], by simpa using h1, h2, (fun e => by cases e), fun _ => ⟨b, off, rfl, hb, fun i hi => ?_⟩⟩⟩
    have hi' : i < len := by simpa using hi
    have hg : ((List.range len).map q).getD i [] = q i := by simp [List.getD_eq_getElem?_getD, hi']
    rw [hg]
    exact hq i hi'
  · obtain rfl : len = 0 := by omega
    exact ⟨[], ⟨a, cap, rfl, h1, h2, h3, fun h => absurd h (by simp)⟩⟩
end
theorem list5n {α : Type} (l : List α) (h : l.length = 5) : ∃ a b c d e, l = [a, b, c, d, e] := by
  match l, h with
  | [a, b, c, d, e], _ => exact ⟨a, b, c, d, e, rfl⟩
/-- the four lists that are summed are no longer than memory -/
def NetSz (N : NetM) : Prop := N.sets.length ≤ 140737488351232 ∧ N.of.length ≤ 140737488351232 ∧ N.last.length ≤ 140737488351232 ∧ N.first.length ≤ 140737488351232
theorem open_net {H : Type} {enc : TypeId × Value → H} {W : World} {b0 : Nat} {v : Value} {d : DataW H} {p : List MemPlace} (hv : Value.okWide Tryz.prog W .any b0 27 v) (h : DataW.Trod enc Tryz.prog W 0 (fun _ => true) true 27 v d p)
    (hw : ∀ n ∈ d.weights Tryz.prog 27, n ≤ reachBytes) : ∃ vs vo vl vf v1 N, v = .agg #[vs, vo, vl, vf, v1] ∧ RdNet W.heap.size W vs vo vl vf v1 N ∧ (∀ s ∈ N.sets, s.wide) ∧ NetSz N := by
  obtain ⟨cs, rfl, hsz⟩ := okWide_struct Tryz.underlying27 hv
  obtain ⟨fuel, hf⟩ := h
  obtain ⟨l⟩ := cs
  have hC : Tryz.prog.cellsOf 27 = 5 := by kernel_rfl
  have hl : l.length = 5 := by simpa [hC] using hsz
  obtain ⟨c0, c1, c2, c3, c4, rfl⟩ := list5n l hl
  obtain ⟨xs, n, _, hx, _, hxl, hfs⟩ := DataW.trod_struct Tryz.underlying27 (by simpa [Value.cells] using hf)
  simp only [Prod.mk.injEq] at hx
  obtain ⟨rfl, _⟩ := hx
  obtain ⟨y0, y1, y2, y3, y4, rfl⟩ := list5n xs (by simpa using hxl)
  have k0 : Tryz.prog.cellsOf 22 = 1 := by kernel_rfl
  have k1 : Tryz.prog.cellsOf 23 = 1 := by kernel_rfl
  have k2 : Tryz.prog.cellsOf 24 = 1 := by kernel_rfl
  have k3 : Tryz.prog.cellsOf 25 = 1 := by kernel_rfl
  have h0 := hfs 0 _ rfl
  have h1 := hfs 1 _ rfl
  have h2 := hfs 2 _ rfl
  have h3 := hfs 3 _ rfl
  have h4 := hfs 4 _ rfl
  simp [k0] at h0
  simp [k1] at h1
  simp [k2] at h2
  simp [k3] at h3
  simp [k1] at h4
  obtain ⟨S, r0, w0, z0⟩ := open_rdS Tryz.underlying22 h0
  obtain ⟨O, r1, z1⟩ := open_rdZ Tryz.underlying23 h1
  obtain ⟨B, r2, z2⟩ := open_rdB Tryz.underlying24 h2
  obtain ⟨F, r3⟩ := open_rdZZ Tryz.underlying25 h3
  obtain ⟨L, r4, z4⟩ := open_rdZ Tryz.underlying23 h4
  have hwt : ∀ (i : Nat) (t : TypeId) (y : DataW H × List MemPlace), [22, 23, 24, 25, 23][i]? = some t → [y0, y1, y2, y3, y4][i]? = some y → ∀ n ∈ y.1.weights Tryz.prog t, n ≤ reachBytes := fun i t y ht hy n hn => by
    refine hw n ?_
    simp only [DataW.weights, Tryz.underlying27]
    refine DataW.weights_mem_each (j := i) (t := t) (d := y.1) (by simpa using ht) ?_ n hn
    rw [List.getElem?_map, hy]
    rfl
  refine ⟨c0, c1, c2, c3, c4, ⟨S, O, B, F, L⟩, rfl, ⟨r0, r1, r2, r3, r4⟩, w0, ?_⟩
  exact ⟨sized_len Tryz.underlying22 (by decide +kernel) z0 (hwt 0 _ _ rfl rfl), sized_len Tryz.underlying23 (by decide +kernel) z1 (hwt 1 _ _ rfl rfl), sized_len Tryz.underlying24 (by decide +kernel) z2 (hwt 2 _ _ rfl rfl), sized_len Tryz.underlying23 (by decide +kernel) z4 (hwt 4 _ _ rfl rfl)⟩
end Go.Proofs.YtmpjjnjggihojaaGreatDoor

/- Few: few tokens, of few steps. -/
namespace Go.Proofs.YtmpjjnjggihojaaGreatDoor
open Go.RowKit Go.Lib Go.Joins
/-- how many steps, each expression's at most 1000 -/
def totT (T : List (List Stp)) : Nat := (T.map fun L => min L.length 1000).sum
theorem totT_more (T : List (List Stp)) (k : Nat) (hk : k < T.length) : totT (T.take (k + 1)) = totT (T.take k) + min (T.getD k []).length 1000 := by
  unfold totT
  rw [List.take_succ_eq_append_getElem hk, List.map_append, List.sum_append, List.getD_eq_getElem?_getD, List.getElem?_eq_getElem hk]
  simp
theorem totT_le (T : List (List Stp)) : totT T ≤ T.length * 1000 := by
  unfold totT
  induction T with
  | nil => simp
  | cons L r ih => simp only [List.map_cons, List.sum_cons, List.length_cons]; omega
def fewB (T : List (List Stp)) : Bool := decide (T.length ≤ 12) && decide (totT T ≤ 90)
theorem totT_each : ∀ (T : List (List Stp)) (i : Nat), min (T.getD i []).length 1000 ≤ totT T
  | [], i => by simp
  | L :: r, 0 => by simp [totT]
  | L :: r, i + 1 => by
    have := totT_each r i
    simp only [totT, List.map_cons, List.sum_cons, List.getD_cons_succ] at *
    omega
theorem few_yes {T : List (List Stp)} (h : fewB T = true) (hw : ∀ i, ∀ s ∈ T.getD i [], s.wide) : FewT T := by
  simp only [fewB, Bool.and_eq_true, decide_eq_true_eq] at h
  exact ⟨h.1, fun i => by have := totT_each T i; omega, hw⟩
set_option maxHeartbeats 4000000 in
set_option maxRecDepth 100000 in
theorem Few_calls {C : Nat → Prop} {v : Value} {T : List (List Stp)} {w : World} (h : Toks C w v T) : Calls Tryz.prog 21 #[v] w fun e w' => e = .returned (.bool (fewB T)) ∧ w = w' := by
  have HV := hidden h
  obtain ⟨av, cv, rfl, h1, h2, _⟩ := h
  have HF := hidden (show fewB T = (decide (T.length ≤ 12) && decide (totT T ≤ 90)) from rfl)
  have HMO := hidden (fun k (hk : k < T.length) => totT_more T k hk)
  have HLE := hidden (fun k => (show totT (T.take k) ≤ k * 1000 from Nat.le_trans (totT_le _) (Nat.mul_le_mul_right _ (by rw [List.length_take]; omega))))
  have HALL := hidden (show totT (T.take T.length) = totT T by rw [List.take_length])
  have H0 := hidden (show totT (T.take 0) = 0 by simp [totT])
  have HAT := hidden (fun k (hk : k < T.length) => HV.out.at (C' := C) (w' := w) (fun b hb => ⟨hb, rfl⟩) k hk)
  obtain ⟨m, hm⟩ : ∃ m, m = T.length := ⟨_, rfl⟩
  rw [← hm] at HF HMO HALL HAT h1
  rw [← hm]
  have hmx : m ≤ 9223372036854775807 := Nat.le_trans h1 h2
  clear h1 h2 hm
  go_enter Tryz.func21, Tryz.ntmps21
  go_wp2
  go_loopw [3, 4] (fun n i wr => ∃ (k : Nat) (x : Int), k ≤ m ∧ n = .int .i64 x ∧ i = .int .i64 k ∧ Hid (m ≤ 12 → x = totT (T.take k)) ∧ wr = w) (fun _ i _ => m - (Go.RowKit.intOf i).toNat)
  case atStart => exact ⟨0, 0, by omega, rfl, rfl, hidden (fun _ => by rw [H0.out]; rfl), rfl⟩
  case round =>
    obtain ⟨k, x, hk, rfl, rfl, HX, rfl⟩ := hrel
    by_cases hlt : k < m
    · obtain ⟨b, off, a2, c2, rfl, _, hc, _⟩ := HAT.out k hlt
      obtain ⟨l, hl⟩ : ∃ l, l = (T.getD k []).length := ⟨_, rfl⟩
      have HK := hidden (HMO.out k hlt)
      rw [← hl] at hc HK
      have HLK := hidden (HLE.out k)
      clear hl
      go_wp2
      go_roundw
      case rel =>
        refine ⟨k + 1, _, by omega, rfl, rfl, hidden (fun h => ?_), trivial⟩
        have h1 := HX.out h
        have h2 := HLK.out
        rw [HK.out, h1]
        unfold wrap64
        omega
      case measure => simp [Go.RowKit.intOf]; omega
    · have e : k = m := by omega
      subst e
      by_cases h12 : k ≤ 12
      · have hx := HX.out h12
        rw [HALL.out] at hx
        have HX2 := hidden hx
        have HT := hidden (HLE.out k)
        obtain ⟨tt, htt⟩ : ∃ t, t = totT T := ⟨_, rfl⟩
        have HTT := hidden htt
        rw [← htt] at hx
        subst hx
        by_cases h90 : tt ≤ 90
        · have q0 : decide (k ≤ 12) = true := decide_eq_true h12
          have q1 : decide ((k : Int) ≤ 12) = true := decide_eq_true (by omega)
          have q2 : decide ((tt : Int) ≤ 90) = true := decide_eq_true (by omega)
          have q3 : decide (tt ≤ 90) = true := decide_eq_true h90
          have HE := hidden (show fewB T = true by rw [HF.out, q0, ← HTT.out, q3]; rfl)
          clear h12 h90 htt
          go_wp2
          go_ret
          exact ⟨ret_b HE.out.symm, rfl⟩
        · have q0 : decide (k ≤ 12) = true := decide_eq_true h12
          have q1 : decide ((k : Int) ≤ 12) = true := decide_eq_true (by omega)
          have q2 : decide ((tt : Int) ≤ 90) = false := decide_eq_false (by omega)
          have q3 : decide (tt ≤ 90) = false := decide_eq_false h90
          have HE := hidden (show fewB T = false by rw [HF.out, q0, ← HTT.out, q3]; rfl)
          clear h12 h90 htt
          go_wp2
          go_ret
          exact ⟨ret_b HE.out.symm, rfl⟩
      · have q0 : decide (k ≤ 12) = false := decide_eq_false h12
        have q1 : decide ((k : Int) ≤ 12) = false := decide_eq_false (by omega)
        have HE := hidden (show fewB T = false by rw [HF.out, q0]; rfl)
        clear h12
        go_wp2
        go_ret
        exact ⟨ret_b HE.out.symm, rfl⟩
end Go.Proofs.YtmpjjnjggihojaaGreatDoor
