/- FuTwo, FuFar, FuKn, put together. -/
import Derived.Test.YtbokhofdgdcpdaaDoorFu23
import Derived.Test.YtbokhofdgdcpdaaDoorFu26
import Derived.Test.YtbokhofdgdcpdaaDoorFu27
import Derived.Test.YtbokhofdgdcpdaaDoorFu30
import Derived.Test.YtbokhofdgdcpdaaDoorFu31
import Derived.Test.YtbokhofdgdcpdaaDoorFu07
/- The chapter's two tokens, a+ and ab. -/
namespace Go.Proofs.YtbokhofdgdcpdaaDoor
open Go.RowKit Go.Lib Go.Joins
def apL : List Stp := [bS 97, kStp 6]
def abL : List Stp := [bS 97, bS 98, kStp 3]
def apT : ByteArray := ⟨#[97, 43]⟩
def abT : ByteArray := ⟨#[97, 98]⟩
theorem ap_at : At apT 0 97 ∧ At apT 1 43 := ⟨⟨by decide, rfl⟩, ⟨by decide, rfl⟩⟩
theorem ab_at : At abT 0 97 ∧ At abT 1 98 := ⟨⟨by decide, rfl⟩, ⟨by decide, rfl⟩⟩
theorem ap_branch (w : World) : Calls Tryd.prog 91 #[.string apT, .int .i64 ((0 : Nat) : Int)] w (Rd w apL 2) := by
  obtain ⟨a0, a1⟩ := ap_at
  refine rbranch_calls apT w (by decide) [⟨0, 1, 43, [bS 97]⟩] 0 (by decide) (fun j => if j = 0 then 0 else 2) rfl ?_ ?_ (.inl rfl) (by decide)
  · intro j hj
    obtain rfl : j = 0 := by simpa using hj
    exact ⟨_, rfl, ⟨by decide, ⟨97, a0, by decide, by decide⟩, fun W _ => ratom_at apT 0 97 W a0 (by decide) (k_plain 97 (.inl rfl)), ⟨.inr (.inl rfl), a1, .inl rfl⟩, by decide, by decide⟩, rfl, rfl⟩
  · intro j hj
    have : apT.size = 2 := rfl
    rw [this]
    split <;> omega
theorem ab_branch (w : World) : Calls Tryd.prog 91 #[.string abT, .int .i64 ((0 : Nat) : Int)] w (Rd w abL 2) := by
  obtain ⟨a0, a1⟩ := ab_at
  refine rbranch_calls abT w (by decide) [⟨0, 1, 0, [bS 97]⟩, ⟨1, 2, 0, [bS 98]⟩] 0 (by decide) (fun j => j) rfl ?_ ?_ (.inl rfl) (by decide)
  · intro j hj
    have hj' : j = 0 ∨ j = 1 := by simp at hj; omega
    rcases hj' with rfl | rfl
    · exact ⟨_, rfl, ⟨by decide, ⟨97, a0, by decide, by decide⟩, fun W _ => ratom_at abT 0 97 W a0 (by decide) (k_plain 97 (.inl rfl)), .inr ⟨98, a1, by decide⟩, by decide, by decide⟩, rfl, rfl⟩
    · exact ⟨_, rfl, ⟨by decide, ⟨98, a1, by decide, by decide⟩, fun W _ => ratom_at abT 1 98 W a1 (by decide) (k_plain 98 (.inr (.inl rfl))), .inl rfl, by decide, by decide⟩, rfl, rfl⟩
  · intro j hj
    have : abT.size = 2 := rfl
    rw [this]
    exact hj
theorem ap_text (w : World) : Calls Tryd.prog 72 #[.string apT, .int .i64 ((0 : Nat) : Int)] w (Rd w apL 2) :=
  rtext_calls apT w (by decide) ⟨0, 2, apL⟩ [] (by decide) ⟨by decide, by decide, fun W _ => ap_branch W⟩ (fun _ => 2) rfl (fun j hj => by simp at hj) (fun _ _ => by decide) (.inl rfl) (by decide)
theorem ab_text (w : World) : Calls Tryd.prog 72 #[.string abT, .int .i64 ((0 : Nat) : Int)] w (Rd w abL 2) :=
  rtext_calls abT w (by decide) ⟨0, 2, abL⟩ [] (by decide) ⟨by decide, by decide, fun W _ => ab_branch W⟩ (fun _ => 2) rfl (fun j hj => by simp at hj) (fun _ _ => by decide) (.inl rfl) (by decide)
set_option maxRecDepth 100000 in
theorem ap_read (w : World) : Calls Tryd.prog 46 #[.string ⟨#[97, 43]⟩] w fun e w' => (∃ v, e = .returned (.tuple #[v, .int .i64 2, .int .i64 0]) ∧ RowX w' w.heap.size v apL) ∧ Below w.heap.size w w' := by
  have HT := hidden (ap_text w)
  go_enter Tryd.func46, Tryd.ntmps46
  go_wp2_with fail
  refine HT.out.mono ?_
  rintro e w1 ⟨v, rfl, hr, hb1⟩
  obtain ⟨a1, c1, rfl⟩ : ∃ a c, v = .slice a 2 c := by
    rcases ownsRow_forms hr with ⟨rfl, h0⟩ | ⟨g, cap, rfl⟩
    · cases h0
    · exact ⟨_, _, rfl⟩
  go_wp2
  go_ret3
  exact ⟨⟨_, rfl, hr⟩, hb1⟩
set_option maxRecDepth 100000 in
theorem ab_read (w : World) : Calls Tryd.prog 46 #[.string ⟨#[97, 98]⟩] w fun e w' => (∃ v, e = .returned (.tuple #[v, .int .i64 2, .int .i64 0]) ∧ RowX w' w.heap.size v abL) ∧ Below w.heap.size w w' := by
  have HT := hidden (ab_text w)
  go_enter Tryd.func46, Tryd.ntmps46
  go_wp2_with fail
  refine HT.out.mono ?_
  rintro e w1 ⟨v, rfl, hr, hb1⟩
  obtain ⟨a1, c1, rfl⟩ : ∃ a c, v = .slice a 3 c := by
    rcases ownsRow_forms hr with ⟨rfl, h0⟩ | ⟨g, cap, rfl⟩
    · cases h0
    · exact ⟨_, _, rfl⟩
  go_wp2
  go_ret3
  exact ⟨⟨_, rfl, hr⟩, hb1⟩
def twoT : List (List Stp) := [apL, abL]
theorem RowX.kept2 {w w' : World} {base : Nat} {v : Value} {L : List Stp} (h : RowX w base v L) (hb : Below w.heap.size w w') : RowX w' base v L :=
  World.ownsRow.kept (row := none) h ⟨hb.os, hb.tape, hb.output, hb.size, fun k hk _ => hb.block k hk⟩ (by cases v.ownBlock <;> simp)
theorem toks_two (w : World) (u1 u2 x y m n : Value) (t : TypeId) (g : Nat) (hg : g = w.heap.size) (h1 : SlX (fun b => b < w.heap.size) w u1 apL) (h2 : SlX (fun b => b < w.heap.size) w u2 abL) :
    Toks (fun b => b < (w.alloc (.cells #[x, u1, m, y, u2, n] t)).heap.size) (w.alloc (.cells #[x, u1, m, y, u2, n] t)) (.slice (some ⟨g, 0, none⟩) 2 2) twoT := by
  subst hg
  have hl : ∀ {v L}, SlX (fun b => b < w.heap.size) w v L → SlX (fun b => b < (w.alloc (.cells #[x, u1, m, y, u2, n] t)).heap.size) (w.alloc (.cells #[x, u1, m, y, u2, n] t)) v L := fun h => h.below fun b hb => ⟨by have h : b < w.heap.size := hb; simp; omega, ((Below.refl w.heap.size w).alloc (Nat.le_refl _) _).block b hb⟩
  refine ⟨_, _, rfl, by decide, by decide, fun _ => ⟨w.heap.size, 0, rfl, by simp, fun i hi => ?_⟩⟩
  have hi' : i = 0 ∨ i = 1 := by
    have : twoT.length = 2 := rfl
    omega
  rcases hi' with rfl | rfl
  · exact ⟨u1, cell_of_row _ _ 1 _ _ _ (heap_alloc_new w _), hl h1⟩
  · exact ⟨u2, cell_of_row _ _ 4 _ _ _ (heap_alloc_new w _), hl h2⟩
set_option maxHeartbeats 2000000 in
set_option maxRecDepth 100000 in
theorem two12_calls (w : World) : Calls Tryd.prog 62 #[] w fun e w' => (∃ v, e = .returned v ∧ Toks (fun b => b < w'.heap.size) w' v twoT) ∧ Below w.heap.size w w' := by
  go_enter Tryd.func62, Tryd.ntmps62
  go_wp2_with fail
  refine (ap_read _).mono ?_
  rintro e w1 ⟨⟨v1, rfl, hr1⟩, hb1⟩
  have HB1 := hidden hb1
  have HR1 := hidden hr1
  obtain ⟨a1, c1, rfl⟩ : ∃ a c, v1 = .slice a 2 c := by
    rcases ownsRow_forms hr1 with ⟨rfl, h0⟩ | ⟨g, cap, rfl⟩
    · cases h0
    · exact ⟨_, _, rfl⟩
  clear hr1 hb1
  go_wp2_with fail
  refine (ab_read _).mono ?_
  rintro e w2 ⟨⟨v2, rfl, hr2⟩, hb2⟩
  have HR2 := hidden hr2
  have HR1b := hidden (HR1.out.kept2 hb2)
  have HB2 := hidden (below_after HB1.out hb2)
  obtain ⟨a2, c2, rfl⟩ : ∃ a c, v2 = .slice a 3 c := by
    rcases ownsRow_forms hr2 with ⟨rfl, h0⟩ | ⟨g, cap, rfl⟩
    · cases h0
    · exact ⟨_, _, rfl⟩
  clear hr2 hb2
  go_wp2
  go_ret
  exact ⟨⟨_, rfl, toks_two w2 _ _ _ _ _ _ _ _ rfl (HR1b.out.reads.below fun b hb => ⟨hb.2, rfl⟩) (HR2.out.reads.below fun b hb => ⟨hb.2, rfl⟩)⟩, HB2.out.alloc HB2.out.size _⟩
theorem two_few : FewT twoT := by
  refine ⟨by decide, fun i => ?_, fun i s hs => ?_⟩
  · match i with
    | 0 => decide
    | 1 => decide
    | _ + 2 => simp [twoT]
  · have hk : ∀ k, (kStp k).wide := fun k => ⟨by simp [kStp], by simp [kStp], by simp [kStp], by simp [kStp]⟩
    have hb : ∀ c, (bS c).wide := fun c => by
      have h := fun i => word_lt (fOne c.toNat) i
      exact ⟨⟨Int.natCast_nonneg _, by have := h 0; simp only [bS, sStp]; omega⟩, ⟨Int.natCast_nonneg _, by have := h 1; simp only [bS, sStp]; omega⟩, ⟨Int.natCast_nonneg _, by have := h 2; simp only [bS, sStp]; omega⟩, ⟨Int.natCast_nonneg _, by have := h 3; simp only [bS, sStp]; omega⟩⟩
    match i with
    | 0 =>
      simp only [twoT, apL, List.getD_cons_zero, List.mem_cons, List.not_mem_nil, or_false] at hs
      rcases hs with rfl | rfl
      · exact hb _
      · exact hk _
    | 1 =>
      simp only [twoT, abL, List.getD_cons_succ, List.getD_cons_zero, List.mem_cons, List.not_mem_nil, or_false] at hs
      rcases hs with rfl | rfl | rfl
      · exact hb _
      · exact hb _
      · exact hk _
    | _ + 2 => simp [twoT] at hs
theorem two_right : rightB (fuseM twoT) = true := by decide +kernel
theorem two_a : runM (fuseM twoT) [97] = [0, 1] := by decide +kernel
theorem two_ab : runM (fuseM twoT) [97, 98] = [2] := by decide +kernel
theorem two_b : runM (fuseM twoT) [98] = [] := by decide +kernel
theorem two_tok : tokenM (fuseM twoT) [2] = 1 := by decide +kernel
theorem two_len : (fuseM twoT).sets.length = 3 ∧ (fuseM twoT).first.length ≤ 100 := by decide +kernel
end Go.Proofs.YtbokhofdgdcpdaaDoor

/- What lies far from a net that is built stays as it is; a set, a number, a flag, a list put behind a net's rows. -/
namespace Go.Proofs.YtbokhofdgdcpdaaDoor
open Go.RowKit Go.Lib Go.Joins
/-- what is far from the net is as it was, and far -/
def FarK (NB : Nat) (w : World) (rs : List R5) (w' : World) (rs' : List R5) : Prop := ∀ k, Far w NB rs k → Far w' NB rs' k ∧ w'.heap[k]? = w.heap[k]?
theorem FarK.refl (NB : Nat) (w : World) (rs : List R5) : FarK NB w rs w rs := fun _ h => ⟨h, rfl⟩
theorem FarK.trans {NB : Nat} {a b c : World} {ra rb rc : List R5} (h : FarK NB a ra b rb) (k : FarK NB b rb c rc) : FarK NB a ra c rc := fun i hi => ⟨(k i (h i hi).1).1, (k i (h i hi).1).2.trans (h i hi).2⟩
theorem FarK.below {NB : Nat} {w w' : World} {rs : List R5} (hb : Below w.heap.size w w') : FarK NB w rs w' rs := fun k hk => ⟨⟨Nat.lt_of_lt_of_le hk.1 hb.size, hk.2⟩, hb.block k hk.1⟩
theorem FarK.put {NB : Nat} {w w' : World} {rs : List R5} (i : Nat) (hi : i < rs.length) (r' : R5) (hg : w.grownBy w' rs[i].v.ownBlock) (hat : r'.v.ownBlock = rs[i].v.ownBlock ∨ r'.v.ownBlock = some w.heap.size) : FarK NB w rs (w'.setCell ⟨NB, i, none⟩ r'.v) (rs.set i r') := fun k hk => by
  obtain ⟨h1, h2⟩ := InO.other i hi r' hg hat hk.1 hk.2
  exact ⟨⟨by have := hg.size; have := hk.1; simp; omega, h2⟩, h1⟩
/-- a net that is built, beside what was far from it in world wA -/
def StF (w0 : World) (base : Nat) (wA : World) (rsA : List R5) (NB : Nat) (N : NetM) (w : World) : Prop :=
  ∃ vs vo vl vf v1 us, NetW w NB base vs vo vl vf v1 us N ∧ FarK NB wA rsA w (rows5 vs vo vl vf v1 us N) ∧ Below base w0 w
section
variable {w w0 w' wA : World} {rsA : List R5} {NB base : Nat} {vs vo vl vf v1 : Value} {us : List Value} {N : NetM}
theorem StF.putS {S' : List Stp} {v' : Value} (h : NetW w NB base vs vo vl vf v1 us N) (hE : FarK NB wA rsA w (rows5 vs vo vl vf v1 us N)) (h0 : Below base w0 w) (hB : base ≤ NB) (hs : base ≤ w.heap.size)
    (hA : Appd w w' base 28 4 vs v' (N.sets.length + S'.length) (N.sets.flatMap setC ++ S'.flatMap setC)) : StF w0 base wA rsA NB { N with sets := N.sets ++ S' } (w'.setCell ⟨NB, 0, none⟩ v') :=
  ⟨_, _, _, _, _, _, h.putS hA.grown (rowS_app hA.own) hA.lies, hE.trans (FarK.put (rs := rows5 vs vo vl vf v1 us N) 0 (by simp [rows5]) ⟨28, 4, v', (N.sets ++ S').length, (N.sets ++ S').flatMap setC⟩ hA.grown hA.lies), put_below h0 hs hA.grown (row_low h.rowS) hB⟩
theorem StF.putO {m : List Int} {v' : Value} (h : NetW w NB base vs vo vl vf v1 us N) (hE : FarK NB wA rsA w (rows5 vs vo vl vf v1 us N)) (h0 : Below base w0 w) (hB : base ≤ NB) (hs : base ≤ w.heap.size)
    (hA : Appd w w' base 3 1 vo v' (N.of.length + m.length) (N.of.map (Value.int .i64) ++ m.map (Value.int .i64))) : StF w0 base wA rsA NB { N with of := N.of ++ m } (w'.setCell ⟨NB, 1, none⟩ v') :=
  ⟨_, _, _, _, _, _, h.putO hA.grown (rowZ_app hA.own) hA.lies, hE.trans (FarK.put (rs := rows5 vs vo vl vf v1 us N) 1 (by simp [rows5]) ⟨3, 1, v', (N.of ++ m).length, (N.of ++ m).map (Value.int .i64)⟩ hA.grown hA.lies), put_below h0 hs hA.grown (row_low h.rowO) hB⟩
theorem StF.putL {m : List Bool} {v' : Value} (h : NetW w NB base vs vo vl vf v1 us N) (hE : FarK NB wA rsA w (rows5 vs vo vl vf v1 us N)) (h0 : Below base w0 w) (hB : base ≤ NB) (hs : base ≤ w.heap.size)
    (hA : Appd w w' base 4 1 vl v' (N.last.length + m.length) (N.last.map Value.bool ++ m.map Value.bool)) : StF w0 base wA rsA NB { N with last := N.last ++ m } (w'.setCell ⟨NB, 2, none⟩ v') :=
  ⟨_, _, _, _, _, _, h.putL hA.grown (rowB_app hA.own) hA.lies, hE.trans (FarK.put (rs := rows5 vs vo vl vf v1 us N) 2 (by simp [rows5]) ⟨4, 1, v', (N.last ++ m).length, (N.last ++ m).map Value.bool⟩ hA.grown hA.lies), put_below h0 hs hA.grown (row_low h.rowL) hB⟩
theorem StF.put1 {m : List Int} {v' : Value} (h : NetW w NB base vs vo vl vf v1 us N) (hE : FarK NB wA rsA w (rows5 vs vo vl vf v1 us N)) (h0 : Below base w0 w) (hB : base ≤ NB) (hs : base ≤ w.heap.size)
    (hA : Appd w w' base 3 1 v1 v' (N.first.length + m.length) (N.first.map (Value.int .i64) ++ m.map (Value.int .i64))) : StF w0 base wA rsA NB { N with first := N.first ++ m } (w'.setCell ⟨NB, 4, none⟩ v') :=
  ⟨_, _, _, _, _, _, h.put1 hA.grown (rowZ_app hA.own) hA.lies, hE.trans (FarK.put (rs := rows5 vs vo vl vf v1 us N) 4 (by simp [rows5]) ⟨3, 1, v', (N.first ++ m).length, (N.first ++ m).map (Value.int .i64)⟩ hA.grown hA.lies), put_below h0 hs hA.grown (row_low h.row1) hB⟩
theorem StF.putF {x : Value} {l : List Int} {v' : Value} (h : NetW w NB base vs vo vl vf v1 us N) (hE : FarK NB wA rsA w (rows5 vs vo vl vf v1 us N)) (h0 : Below base w0 w) (hB : base ≤ NB) (hs : base ≤ w.heap.size)
    (hx : ElR (Far w NB (rows5 vs vo vl vf v1 us N)) w x l) (hA : Appd w w' base 30 1 vf v' (N.fol.length + 1) (us ++ [x])) : StF w0 base wA rsA NB { N with fol := N.fol ++ [l] } (w'.setCell ⟨NB, 3, none⟩ v') := by
  have hR : rows5 vs vo vl v' v1 (us ++ [x]) { N with fol := N.fol ++ [l] } = (rows5 vs vo vl vf v1 us N).set 3 ⟨30, 1, v', N.fol.length + 1, us ++ [x]⟩ := by simp [rows5]
  refine ⟨_, _, _, _, _, _, h.putF hx hA.grown hA.own hA.lies, ?_, put_below h0 hs hA.grown (row_low h.rowF) hB⟩
  rw [hR]
  exact hE.trans (FarK.put (rs := rows5 vs vo vl vf v1 us N) 3 (by simp [rows5]) ⟨30, 1, v', N.fol.length + 1, us ++ [x]⟩ hA.grown hA.lies)
/-- a slice of sets in a block of this kind -/
def ElS (P : Nat → Prop) (w : World) (v : Value) (S : List Stp) : Prop := ∃ a cap, v = .slice a S.length cap ∧ (0 < S.length → ∃ b off, a = some ⟨b, off, none⟩ ∧ P b ∧ ∀ i, i < S.length → w.cell? ⟨b, off + i * 4, none⟩ = some (.int .u64 (S.getD i default).a) ∧ w.cell? ⟨b, off + i * 4 + 1, none⟩ = some (.int .u64 (S.getD i default).b) ∧ w.cell? ⟨b, off + i * 4 + 2, none⟩ = some (.int .u64 (S.getD i default).c) ∧ w.cell? ⟨b, off + i * 4 + 3, none⟩ = some (.int .u64 (S.getD i default).d))
theorem ElS.at {P P' : Nat → Prop} {a : Option Addr} {n c : Nat} {S : List Stp} (h : ElS P w (.slice a n c) S) (hk : ∀ k, P k → P' k ∧ w'.heap[k]? = w.heap[k]?) (i : Nat) (hi : i < S.length) : ∃ b off, a = some ⟨b, off, none⟩ ∧ P' b ∧ w'.cell? ⟨b, off + i * 4, none⟩ = some (.int .u64 (S.getD i default).a) ∧ w'.cell? ⟨b, off + i * 4 + 1, none⟩ = some (.int .u64 (S.getD i default).b) ∧ w'.cell? ⟨b, off + i * 4 + 2, none⟩ = some (.int .u64 (S.getD i default).c) ∧ w'.cell? ⟨b, off + i * 4 + 3, none⟩ = some (.int .u64 (S.getD i default).d) := by
  obtain ⟨a', cap, e, h4⟩ := h
  simp only [Value.slice.injEq] at e
  obtain ⟨rfl, _, _⟩ := e
  obtain ⟨b, off, e, hP, hc⟩ := h4 (by omega)
  obtain ⟨x0, x1, x2, x3⟩ := hc i hi
  exact ⟨b, off, e, (hk b hP).1, (World.cell?_of_block (a := ⟨b, off + i * 4, none⟩) (hk b hP).2).trans x0, (World.cell?_of_block (a := ⟨b, off + i * 4 + 1, none⟩) (hk b hP).2).trans x1, (World.cell?_of_block (a := ⟨b, off + i * 4 + 2, none⟩) (hk b hP).2).trans x2, (World.cell?_of_block (a := ⟨b, off + i * 4 + 3, none⟩) (hk b hP).2).trans x3⟩
theorem RowS.el {B : Nat} {v : Value} {S : List Stp} (h : RowS w B v S) : ElS (fun k => B ≤ k ∧ k < w.heap.size) w v S := by
  have h' := h
  rcases h.2 with ⟨rfl, h0⟩ | ⟨g, cap, cur, rfl, hb, hg, h1, h2, h3, h4⟩
  · exact ⟨none, 0, by rw [h0], fun hp => by omega⟩
  · refine ⟨some ⟨g, 0, none⟩, cap, rfl, fun _ => ⟨g, 0, rfl, ⟨hb, (Array.getElem?_eq_some_iff.1 hg).1⟩, fun i hi => ?_⟩⟩
    have hc : ∀ j, j < 4 → w.cell? ⟨g, i * 4 + j, none⟩ = (setC (S.getD i default))[j]? := fun j hj => by
      rw [World.ownsRow.cellAt h' (i * 4 + j) (by omega)]
      exact flat_set4 S i hi j hj
    rw [Nat.zero_add]
    exact ⟨hc 0 (by omega), hc 1 (by omega), hc 2 (by omega), hc 3 (by omega)⟩
theorem NetW.freshS {B : Nat} {S : List Stp} {u : Value} (h : NetW w NB base vs vo vl vf v1 us N) (hr : RowS w' B u S) (hB : w.heap.size ≤ B) : ElS (Far w' NB (rows5 vs vo vl vf v1 us N)) w' u S := by
  obtain ⟨a, cap, e, h4⟩ := hr.el
  refine ⟨a, cap, e, fun hp => ?_⟩
  obtain ⟨b, off, e, hP, hc⟩ := h4 hp
  exact ⟨b, off, e, ⟨hP.2, fun hI => by have := h.own.ltO hI; omega⟩, hc⟩
theorem ElS.mono {P P' : Nat → Prop} {u : Value} {S : List Stp} (h : ElS P w u S) (hk : ∀ k, P k → P' k ∧ w'.heap[k]? = w.heap[k]?) : ElS P' w' u S := by
  obtain ⟨a, cap, rfl, h4⟩ := h
  refine ⟨a, cap, rfl, fun hp => ?_⟩
  obtain ⟨b, off, e, hP, hc⟩ := h4 hp
  refine ⟨b, off, e, (hk b hP).1, fun i hi => ?_⟩
  obtain ⟨x0, x1, x2, x3⟩ := hc i hi
  exact ⟨(World.cell?_of_block (a := ⟨b, off + i * 4, none⟩) (hk b hP).2).trans x0, (World.cell?_of_block (a := ⟨b, off + i * 4 + 1, none⟩) (hk b hP).2).trans x1, (World.cell?_of_block (a := ⟨b, off + i * 4 + 2, none⟩) (hk b hP).2).trans x2, (World.cell?_of_block (a := ⟨b, off + i * 4 + 3, none⟩) (hk b hP).2).trans x3⟩
end
theorem Src.four (w : World) (x0 x1 x2 x3 : Value) (t : TypeId) (b : Nat) (hb : b = w.heap.size) : Src (w.alloc (.cells #[x0, x1, x2, x3] t)) (.slice (some ⟨b, 0, none⟩) 1 1) 1 [x0, x1, x2, x3] := by
  subst hb
  refine .inr ⟨_, _, rfl, fun j u hj => ?_⟩
  rw [Addr.add_lit, Nat.zero_add, cell_of_row _ _ _ _ _ _ (heap_alloc_new w (.cells #[x0, x1, x2, x3] t))]
  simpa using hj
theorem rspsets_calls {C : Nat → Prop} {v : Value} {L : List Stp} {w : World} (h : SlX C w v L) (hC : ∀ b, C b → b < w.heap.size) (hl : L.length ≤ 512) : Calls Tryd.prog 12 #[v] w (RetS w (setsL L)) := by
  unfold setsL
  by_cases hz : (measV L).2 = 0
  · rw [if_pos hz]
    exact rsets_calls h hC hz hl
  · rw [if_neg hz]
    exact rsets_none h hC hz
/-- behind j rounds of the reference's inner loop -/
def refK (N : NetM) (token : Int) (L : List Stp) (j : Nat) : NetM :=
  ⟨N.sets ++ (setsL L).take j, N.of ++ List.replicate j token, N.last ++ (List.range j).map (fun i : Nat => decide ((i : Int) ∈ spI (elems (prtL L).last))),
    N.fol ++ (List.range j).map (fun i : Nat => mvd (spI (elems (folL i L))) N.sets.length), N.first⟩
theorem refK_more (N : NetM) (token : Int) (L : List Stp) (k : Nat) (hk : k < (setsL L).length) : refK N token L (k + 1) = { { { { refK N token L k with
    sets := (refK N token L k).sets ++ [(setsL L).getD k default] } with of := (refK N token L k).of ++ [token] } with last := (refK N token L k).last ++ [decide ((k : Int) ∈ spI (elems (prtL L).last))] } with fol := (refK N token L k).fol ++ [mvd (spI (elems (folL k L))) N.sets.length] } := by
  simp only [refK, List.range_succ, List.replicate_succ', List.map_append, List.map_cons, List.map_nil, List.append_assoc, NetM.mk.injEq, and_self, and_true]
  rw [List.take_succ_eq_append_getElem hk, List.getD_eq_getElem?_getD, List.getElem?_eq_getElem hk]
  rfl
theorem refK_zero (N : NetM) (token : Int) (L : List Stp) : refK N token L 0 = N := by simp [refK]
theorem refK_all (N : NetM) (token : Int) (L : List Stp) : { refK N token L (setsL L).length with first := (refK N token L (setsL L).length).first ++ mvd (spI (elems (prtL L).first)) N.sets.length } = addM N token L := by
  simp [refK, addM]
end Go.Proofs.YtbokhofdgdcpdaaDoor

/- What every statement of stage 12 knows besides: the chapter's example. -/
namespace Go.Proofs.YtbokhofdgdcpdaaDoor
open Go.RowKit Go.Lib Go.Joins
theorem bumpK (w : World) (o : Obj) : Below w.heap.size w (w.alloc o) := (Below.refl w.heap.size w).alloc (Nat.le_refl _) o
theorem setsL_wide {L : List Stp} (h : ∀ s ∈ L, s.wide) : ∀ s ∈ setsL L, s.wide := by
  intro s hs
  unfold setsL at hs
  split at hs
  · exact h s (List.mem_filter.1 hs).1
  · cases hs
theorem fuseK_wide {T : List (List Stp)} (h : ∀ i, ∀ s ∈ T.getD i [], s.wide) : ∀ k, ∀ s ∈ (fuseK T k).sets, s.wide
  | 0, s, hs => by simp [fuseK] at hs
  | k + 1, s, hs => by
    rw [fuseK_more] at hs
    rcases List.mem_append.1 hs with hs | hs
    · exact fuseK_wide h k s hs
    · exact setsL_wide (h k) s hs
theorem fuseM_wide {T : List (List Stp)} (h : ∀ i, ∀ s ∈ T.getD i [], s.wide) : ∀ s ∈ (fuseM T).sets, s.wide := by
  rw [← fuseK_all]
  exact fuseK_wide h _
theorem k_run {w : World} {vs vo vl vf v1 : Value} (s : ByteArray) (hs : s.size ≤ 1000) (h : RdNet w.heap.size w vs vo vl vf v1 (fuseM twoT)) : Calls Tryd.prog 41 #[.agg #[vs, vo, vl, vf, v1], .string s] w (RetZ w (spI (runM (fuseM twoT) (byN s)))) :=
  Run_calls s h (fuseM_wide two_few.wide) (by have := two_len.1; omega) (by have := two_len.2; omega) hs
theorem k_run_a {w : World} {vs vo vl vf v1 : Value} (h : RdNet w.heap.size w vs vo vl vf v1 (fuseM twoT)) : Calls Tryd.prog 41 #[.agg #[vs, vo, vl, vf, v1], .string ⟨#[97]⟩] w (RetZ w [0, 1]) := by
  have := k_run ⟨#[97]⟩ (by decide) h
  rw [show byN ⟨#[97]⟩ = [97] by decide, two_a, show spI [0, 1] = [0, 1] by unfold spI; rfl] at this
  exact this
theorem k_run_ab {w : World} {vs vo vl vf v1 : Value} (h : RdNet w.heap.size w vs vo vl vf v1 (fuseM twoT)) : Calls Tryd.prog 41 #[.agg #[vs, vo, vl, vf, v1], .string ⟨#[97, 98]⟩] w (RetZ w [2]) := by
  have := k_run ⟨#[97, 98]⟩ (by decide) h
  rw [show byN ⟨#[97, 98]⟩ = [97, 98] by decide, two_ab, show spI [2] = [2] by unfold spI; rfl] at this
  exact this
theorem k_run_b {w : World} {vs vo vl vf v1 : Value} (h : RdNet w.heap.size w vs vo vl vf v1 (fuseM twoT)) : Calls Tryd.prog 41 #[.agg #[vs, vo, vl, vf, v1], .string ⟨#[98]⟩] w (RetZ w []) := by
  have := k_run ⟨#[98]⟩ (by decide) h
  rw [show byN ⟨#[98]⟩ = [98] by decide, two_b, show spI [] = [] by unfold spI; rfl] at this
  exact this
theorem k_tok {w : World} {v vs vo vl vf v1 : Value} (h : RdNet w.heap.size w vs vo vl vf v1 (fuseM twoT)) (hr : RdZ w.heap.size w v [2]) : Calls Tryd.prog 43 #[.agg #[vs, vo, vl, vf, v1], v] w fun e w' => e = .returned (.int .i64 1) ∧ Below w.heap.size w w' := by
  have := Token_calls h (by have := two_len.1; omega) hr
  rw [two_tok] at this
  exact this
theorem RdNet.one {B : Nat} {w : World} {vs vo vl vf v1 : Value} {N : NetM} (h : RdNet B w vs vo vl vf v1 N) : (#[vs, vo, vl, vf, v1] : Array Value).all (·.oneCell') = true := by
  obtain ⟨_, _, rfl⟩ := h.sets.form
  obtain ⟨_, _, rfl⟩ := h.of.form
  obtain ⟨_, _, rfl⟩ := h.last.form
  obtain ⟨_, _, rfl⟩ := h.fol.form
  obtain ⟨_, _, rfl⟩ := h.first.form
  simp [Value.oneCell']
structure KW (w0 : World) (n0 : Nat) (vs vo vl vf v1 : Value) (w : World) : Prop where
  b : Below w0.heap.size w0 w
  n : w.heap[n0]? = some (.cells #[vs, vo, vl, vf, v1] 48 (0, 0))
  r : RdNet w.heap.size w vs vo vl vf v1 (fuseM twoT)
theorem KW.more {w0 w w' : World} {n0 : Nat} {vs vo vl vf v1 : Value} (h : KW w0 n0 vs vo vl vf v1 w) (hb : Below w.heap.size w w') : KW w0 n0 vs vo vl vf v1 w' :=
  ⟨below_after h.b hb, (hb.block n0 (Array.getElem?_eq_some_iff.1 h.n).1).trans h.n, h.r.later hb⟩
theorem KW.cells {w0 w : World} {n0 : Nat} {vs vo vl vf v1 : Value} (h : KW w0 n0 vs vo vl vf v1 w) : w.cell? ⟨n0, 0, none⟩ = some vs ∧ w.cell? ⟨n0, 1, none⟩ = some vo ∧ w.cell? ⟨n0, 2, none⟩ = some vl ∧ w.cell? ⟨n0, 3, none⟩ = some vf ∧ w.cell? ⟨n0, 4, none⟩ = some v1 :=
  ⟨cell_of_row _ _ 0 _ _ _ h.n, cell_of_row _ _ 1 _ _ _ h.n, cell_of_row _ _ 2 _ _ _ h.n, cell_of_row _ _ 3 _ _ _ h.n, cell_of_row _ _ 4 _ _ _ h.n⟩
def Rz (n : Nat) (l : List Int) (v : Value) (w : World) : Prop := ∃ a c, v = .slice a n c ∧ RdZ w.heap.size w (.slice a n c) l
theorem rz_mono (n : Nat) (l : List Int) : ∀ v w w', Rz n l v w → Below w.heap.size w w' → Rz n l v w' := fun _ _ _ ⟨a, c, e, h⟩ hb => ⟨a, c, e, h.later hb⟩
theorem rz_row {w : World} {base : Nat} {v : Value} {l : List Int} (h : RowZ w base v l) : Rz l.length l v w := by
  obtain ⟨a, c, rfl⟩ := h.form
  exact ⟨a, c, rfl, h.reads⟩
theorem rz_lits (w : World) (l : List Int) (b n : Nat) (hb : b = w.heap.size) (hn : n = l.length) (hl : n ≤ 1000) (cur : Array Value) (hc : cur = (l.map (Value.int .i64)).toArray) : Rz n l (.slice (some ⟨b, 0, none⟩) n n) (w.alloc (.cells cur 3)) := by
  have h := rowz_lits w l b n hb hn hl cur hc
  exact ⟨_, _, rfl, h.reads⟩
attribute [local go_sem] evalR_tmp evalR_const evalR_global evalR_func
def L12 (vs vo vl vf v1 : Value) : List (Value → World → Prop) := [
  Is (.agg #[vs, vo, vl, vf, v1]), Rz 2 [0, 1], Rz 2 [0, 1], isTrue, isTrue, Is (.agg #[vs, vo, vl, vf, v1]), Rz 1 [2], Rz 1 [2], isTrue, isTrue, isTrue, Is (.agg #[vs, vo, vl, vf, v1]), Is (.agg #[vs, vo, vl, vf, v1]), Rz 1 [2], Is (.int .i64 1), isTrue, isTrue, isTrue, Is (.agg #[vs, vo, vl, vf, v1]), Rz 0 [], Is (.int .i64 0), isTrue, isTrue, isTrue]
set_option maxHeartbeats 8000000 in
set_option maxRecDepth 100000 in
theorem knows12_calls (w : World) (ht : Tab w) : Calls Tryd.prog 29 #[] w fun e w' => e = .returned (.bool true) ∧ Below w.heap.size w w' := by
  have HT := hidden ht
  have HG := hidden (show 0 < w.heap.size from cell_lt (ht 0 (by decide)))
  clear ht
  go_enter Tryd.func29, Tryd.ntmps29
  go_wp2_with fail
  refine (two12_calls _).mono ?_
  rintro e w1 ⟨⟨v, rfl, hr⟩, hb1⟩
  have HB1 := hidden hb1
  have HR1 := hidden hr
  clear hr hb1
  go_wp2_with fail
  refine (Fuse_calls HR1.out (fun b hb => hb) two_few (HT.out.below HB1.out) (Nat.lt_of_lt_of_le HG.out HB1.out.size)).mono ?_
  rintro e w2 ⟨vs, vo, vl, vf, v1, rfl, hr2, hb2⟩
  have HB2 := hidden (below_after HB1.out hb2)
  have HR2 := hidden hr2
  clear hr2 hb2
  unfold netV
  have HO := hidden (heap_alloc_new w2 (.cells #[.slice none 0 0, .slice none 0 0, .slice none 0 0, .slice none 0 0, .slice none 0 0] 48))
  dsimp only
  go_wp2_with (refine store_row (B := w2.heap.size) (cs := #[vs, vo, vl, vf, v1]) (old := #[.slice none 0 0, .slice none 0 0, .slice none 0 0, .slice none 0 0, .slice none 0 0]) (t := 48) rfl (ty := 48) (x := .tmp 1) (y := .tmp 3) rfl rfl rfl HO.out 5 (by kernel_rfl) rfl rfl HR2.out.one ?_; intro w3 hw3 hg3; have HL3 := hidden hw3; have HG3 := hidden hg3; clear hw3 hg3)
  have hB3 : Below w2.heap.size w2 w3 := ((Below.refl w2.heap.size w2).alloc (Nat.le_refl _) _).grown HG3.out (by simp) (fun j e => by simp only [Option.some.injEq] at e; omega)
  have HK := hidden (KW.mk (w0 := w) (n0 := w2.heap.size) (below_after HB2.out hB3) HL3.out (HR2.out.later hB3))
  obtain ⟨n0, hn0⟩ : ∃ n0, n0 = w2.heap.size := ⟨_, rfl⟩
  rw [← hn0] at HK ⊢
  clear hB3 HO HL3 HG3 hn0
  refine wp_region_steps (typ (L12 vs vo vl vf v1)) (KW w n0 vs vo vl vf v1) (by kernel_rfl) (by kernel_rfl) (by kernel_rfl) (by kernel_rfl) ?mono ?start [4, 10, 17] (by kernel_rfl) ?guards ?step ?fin
  case mono =>
    refine typ_mono ?_
    simp only [L12, List.forall_mem_cons]
    repeat' (first | exact is_mono _ | exact rz_mono _ _ | (intro p hp; cases hp; done) | refine And.intro ?_ ?_)
  case start => exact HK.out.more (Below.refl _ _).drew
  case guards =>
    intro g hg v w h
    simp at hg
    rcases hg with rfl | rfl | rfl <;> exact h
  case fin =>
    intro a w1 hs hv hW
    rename_i Q' K hK
    refine hK a w1 ?_
    have h0 : a.tmps.getD 0 undef = .bool true := hv 23 0 (by kernel_rfl)
    have hd := hs.defers
    go_wp2
    refine bodyPost_ret (results_tmp rfl _ _ _) hd ?_
    rw [h0]
    exact ⟨rfl, hW.b⟩
  case step =>
    refine ⟨?_, ?_, ?_, ?_, ?_, ?_, ?_, ?_, ?_, ?_, ?_, ?_, ?_, ?_, ?_, ?_, ?_, ?_, ?_, ?_, ?_, ?_, ?_, ?_, trivial⟩
    · intro ρ w1 hF hW
      have HW := hidden hW
      clear hW
      have e1 : ρ 1 = .pointer (some ⟨n0, 0, none⟩) := hF 1 (by decide)
      clear hF
      obtain ⟨k0, k1, k2, k3, k4⟩ := HW.out.cells
      unfold Does
      go_simp
      exact ⟨rfl, HW.out, Below.refl _ _⟩
    · intro ρ w1 hF hW
      have HW := hidden hW
      clear hW
      have e4 : ρ 4 = .agg #[vs, vo, vl, vf, v1] := hF 4 (by decide)
      clear hF
      unfold Does
      go_simp
      refine (k_run_a HW.out.r).mono ?_
      rintro e w2 ⟨v, rfl, hr, hb⟩
      exact ⟨_, rfl, rz_row hr, HW.out.more hb, hb⟩
    · intro ρ w1 hF hW
      have HW := hidden hW
      clear hW
      clear hF
      unfold Does
      go_simp
      exact ⟨rz_lits w1 [0, 1] _ 2 rfl rfl (by omega) _ rfl, HW.out.more (bumpK _ _), bumpK _ _⟩
    · intro ρ w1 hF hW
      have HW := hidden hW
      clear hW
      obtain ⟨a5, c5, e5, h5⟩ : ∃ a c, ρ 5 = .slice a 2 c ∧ RdZ w1.heap.size w1 (.slice a 2 c) [0, 1] := hF 5 (by decide)
      obtain ⟨a6, c6, e6, h6⟩ : ∃ a c, ρ 6 = .slice a 2 c ∧ RdZ w1.heap.size w1 (.slice a 2 c) [0, 1] := hF 6 (by decide)
      clear hF
      unfold Does
      go_simp
      refine (rsame_calls h5 h6).mono ?_
      rintro e w2 ⟨rfl, hb⟩
      exact ⟨_, rfl, rfl, HW.out.more hb, hb⟩
    · intro ρ w1 hF hW
      have HW := hidden hW
      clear hW
      have e7 : ρ 7 = .bool true := hF 7 (by decide)
      clear hF
      unfold Does
      go_simp
      exact ⟨rfl, HW.out, Below.refl _ _⟩
    · intro ρ w1 hF hW
      have HW := hidden hW
      clear hW
      have e1 : ρ 1 = .pointer (some ⟨n0, 0, none⟩) := hF 1 (by decide)
      clear hF
      obtain ⟨k0, k1, k2, k3, k4⟩ := HW.out.cells
      unfold Does
      go_simp
      exact ⟨rfl, HW.out, Below.refl _ _⟩
    · intro ρ w1 hF hW
      have HW := hidden hW
      clear hW
      have e9 : ρ 9 = .agg #[vs, vo, vl, vf, v1] := hF 9 (by decide)
      clear hF
      unfold Does
      go_simp
      refine (k_run_ab HW.out.r).mono ?_
      rintro e w2 ⟨v, rfl, hr, hb⟩
      exact ⟨_, rfl, rz_row hr, HW.out.more hb, hb⟩
    · intro ρ w1 hF hW
      have HW := hidden hW
      clear hW
      clear hF
      unfold Does
      go_simp
      exact ⟨rz_lits w1 [2] _ 1 rfl rfl (by omega) _ rfl, HW.out.more (bumpK _ _), bumpK _ _⟩
    · intro ρ w1 hF hW
      have HW := hidden hW
      clear hW
      obtain ⟨a10, c10, e10, h10⟩ : ∃ a c, ρ 10 = .slice a 1 c ∧ RdZ w1.heap.size w1 (.slice a 1 c) [2] := hF 10 (by decide)
      obtain ⟨a11, c11, e11, h11⟩ : ∃ a c, ρ 11 = .slice a 1 c ∧ RdZ w1.heap.size w1 (.slice a 1 c) [2] := hF 11 (by decide)
      clear hF
      unfold Does
      go_simp
      refine (rsame_calls h10 h11).mono ?_
      rintro e w2 ⟨rfl, hb⟩
      exact ⟨_, rfl, rfl, HW.out.more hb, hb⟩
    · intro ρ w1 hF hW
      have HW := hidden hW
      clear hW
      have e8 : ρ 8 = .bool true := hF 8 (by decide)
      have e12 : ρ 12 = .bool true := hF 12 (by decide)
      clear hF
      unfold Does
      go_simp
      exact ⟨rfl, HW.out, Below.refl _ _⟩
    · intro ρ w1 hF hW
      have HW := hidden hW
      clear hW
      have e13 : ρ 13 = .bool true := hF 13 (by decide)
      clear hF
      unfold Does
      go_simp
      exact ⟨rfl, HW.out, Below.refl _ _⟩
    · intro ρ w1 hF hW
      have HW := hidden hW
      clear hW
      have e1 : ρ 1 = .pointer (some ⟨n0, 0, none⟩) := hF 1 (by decide)
      clear hF
      obtain ⟨k0, k1, k2, k3, k4⟩ := HW.out.cells
      unfold Does
      go_simp
      exact ⟨rfl, HW.out, Below.refl _ _⟩
    · intro ρ w1 hF hW
      have HW := hidden hW
      clear hW
      have e1 : ρ 1 = .pointer (some ⟨n0, 0, none⟩) := hF 1 (by decide)
      clear hF
      obtain ⟨k0, k1, k2, k3, k4⟩ := HW.out.cells
      unfold Does
      go_simp
      exact ⟨rfl, HW.out, Below.refl _ _⟩
    · intro ρ w1 hF hW
      have HW := hidden hW
      clear hW
      have e16 : ρ 16 = .agg #[vs, vo, vl, vf, v1] := hF 16 (by decide)
      clear hF
      unfold Does
      go_simp
      refine (k_run_ab HW.out.r).mono ?_
      rintro e w2 ⟨v, rfl, hr, hb⟩
      exact ⟨_, rfl, rz_row hr, HW.out.more hb, hb⟩
    · intro ρ w1 hF hW
      have HW := hidden hW
      clear hW
      have e15 : ρ 15 = .agg #[vs, vo, vl, vf, v1] := hF 15 (by decide)
      obtain ⟨a17, c17, e17, h17⟩ : ∃ a c, ρ 17 = .slice a 1 c ∧ RdZ w1.heap.size w1 (.slice a 1 c) [2] := hF 17 (by decide)
      clear hF
      unfold Does
      go_simp
      refine (k_tok HW.out.r h17).mono ?_
      rintro e w2 ⟨rfl, hb⟩
      exact ⟨_, rfl, rfl, HW.out.more hb, hb⟩
    · intro ρ w1 hF hW
      have HW := hidden hW
      clear hW
      have e18 : ρ 18 = .int .i64 1 := hF 18 (by decide)
      clear hF
      unfold Does
      go_simp
      exact ⟨rfl, HW.out, Below.refl _ _⟩
    · intro ρ w1 hF hW
      have HW := hidden hW
      clear hW
      have e14 : ρ 14 = .bool true := hF 14 (by decide)
      have e19 : ρ 19 = .bool true := hF 19 (by decide)
      clear hF
      unfold Does
      go_simp
      exact ⟨rfl, HW.out, Below.refl _ _⟩
    · intro ρ w1 hF hW
      have HW := hidden hW
      clear hW
      have e20 : ρ 20 = .bool true := hF 20 (by decide)
      clear hF
      unfold Does
      go_simp
      exact ⟨rfl, HW.out, Below.refl _ _⟩
    · intro ρ w1 hF hW
      have HW := hidden hW
      clear hW
      have e1 : ρ 1 = .pointer (some ⟨n0, 0, none⟩) := hF 1 (by decide)
      clear hF
      obtain ⟨k0, k1, k2, k3, k4⟩ := HW.out.cells
      unfold Does
      go_simp
      exact ⟨rfl, HW.out, Below.refl _ _⟩
    · intro ρ w1 hF hW
      have HW := hidden hW
      clear hW
      have e22 : ρ 22 = .agg #[vs, vo, vl, vf, v1] := hF 22 (by decide)
      clear hF
      unfold Does
      go_simp
      refine (k_run_b HW.out.r).mono ?_
      rintro e w2 ⟨v, rfl, hr, hb⟩
      exact ⟨_, rfl, rz_row hr, HW.out.more hb, hb⟩
    · intro ρ w1 hF hW
      have HW := hidden hW
      clear hW
      obtain ⟨a23, c23, e23, h23⟩ : ∃ a c, ρ 23 = .slice a 0 c ∧ RdZ w1.heap.size w1 (.slice a 0 c) [] := hF 23 (by decide)
      clear hF
      unfold Does
      go_simp
      exact ⟨rfl, HW.out, Below.refl _ _⟩
    · intro ρ w1 hF hW
      have HW := hidden hW
      clear hW
      have e24 : ρ 24 = .int .i64 0 := hF 24 (by decide)
      clear hF
      unfold Does
      go_simp
      exact ⟨rfl, HW.out, Below.refl _ _⟩
    · intro ρ w1 hF hW
      have HW := hidden hW
      clear hW
      have e21 : ρ 21 = .bool true := hF 21 (by decide)
      have e25 : ρ 25 = .bool true := hF 25 (by decide)
      clear hF
      unfold Does
      go_simp
      exact ⟨rfl, HW.out, Below.refl _ _⟩
    · intro ρ w1 hF hW
      have HW := hidden hW
      clear hW
      have e26 : ρ 26 = .bool true := hF 26 (by decide)
      clear hF
      unfold Does
      go_simp
      exact ⟨rfl, HW.out, Below.refl _ _⟩
end Go.Proofs.YtbokhofdgdcpdaaDoor
