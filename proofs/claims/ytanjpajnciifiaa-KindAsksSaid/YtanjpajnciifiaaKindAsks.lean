/- KindAsks (P1302), for every input: of any classes, whatever class and set is asked for: Right, Width, Bytes and Split are the document's. -/
import Derived.Test.YtanjpajnciifiaaKiOpen
import Derived.Test.YtanjpajnciifiaaKiAsk
import Derived.Test.YtanjpajnciifiaaKiByt
import Derived.Laws.IdiomStrings
namespace Go.Proofs.Ytanjpajnciifiaa.lawKindAsks
open Go.ChangeShapes Go.WideShapes Go.ChangeAt Go.RowKit
attribute [local go_sem] evalR_tmp evalR_const evalR_global evalR_func

/-- a whole array is loaded, in a region met operation by operation -/
theorem does_load {o : Oper} {ρ : Tmp → Value} {w : World} {Kv : Value → World → Prop} {x : Tmp} {B : Nat} {v : Nat → Value} (ho : o.op = .load 24 (.tmp x)) (hx : ρ x = .pointer (some ⟨B, 0, none⟩)) (hA : ArrAt w B 24 v) (h : Kv (.agg (cellsN v)) w) : Does Try.prog o ρ w Kv := by
  have hl := run_loadVar_row (P := Try.prog) w B 24 24 _ (0, 0) _ hA Try.underlying24 rfl (by rw [cellsN_size]; exact size_arr)
  unfold Does execOp
  simp only [ho, evalR_tmp, hx, Instr.loadAt, Instr.sureAddr, Sem.run_bind, Sem.run_pure, Result.andThen_ok, hl]
  exact h
/-- a slice of the call's own that holds the bytes of a class -/
def rowP (g : Nat → Nat) (c : Int) (v : Value) (w : World) : Prop := w.ownsRow 0 5 1 v (lstC g c).length ((lstC g c).map byteV)
theorem rowP.mono (g : Nat → Nat) (c : Int) : ∀ v w w', rowP g c v w → Below w.heap.size w w' → rowP g c v w' := fun _ _ _ h hb => row_below h hb
/-- .. as a text -/
def txtC (g : Nat → Nat) (c : Int) : ByteArray := ⟨((lstC g c).map UInt8.ofNat).toArray⟩
theorem lst_lt {g : Nat → Nat} {c : Int} {x : Nat} (h : x ∈ lstC g c) : x < 256 := by
  have := (List.mem_filter.1 h).1
  simpa using this
theorem row_text {g : Nat → Nat} {c : Int} {v : Value} {w : World} (h : rowP g c v w) : (convert 33 9 v).run Try.prog w = .ok (.string (txtC g c)) w := by
  rcases h.2 with ⟨rfl, h0⟩ | ⟨B, cap, cur, rfl, _⟩
  · rw [run_convert_bytes_nil w 33 5 Try.underlying33 Try.underlying5 _ _ 9 Try.underlying9]
    unfold txtC
    rw [List.eq_nil_of_length_eq_zero h0]
    rfl
  · unfold txtC
    rw [show (lstC g c).length = ((lstC g c).map UInt8.ofNat).length by simp]
    refine run_convert_bytes_back w _ _ _ _ _ ((lstC g c).map UInt8.ofNat) Try.underlying33 Try.underlying5 Try.underlying9 fun j hj => ?_
    have hj' : j < (lstC g c).length := by simpa using hj
    refine (World.ownsRow.cells (g := B) h rfl j (byteV (lstC g c)[j]) (by simp [hj'])).trans ?_
    have hl : (lstC g c)[j] < 256 := lst_lt (List.getElem_mem hj')
    simp [byteV]
    omega
/-- what the law knows of a world -/
def W (w0 : World) (g : Nat → Nat) (f : Nat → Bool) (w : World) : Prop := ArrAt w w0.heap.size 24 (nV g) ∧ SetAt w (w0.heap.size + 1) f ∧ Below w0.heap.size w0 w
theorem Wm {w0 w w' : World} {g : Nat → Nat} {f : Nat → Bool} (h : W w0 g f w) (hb : Below w.heap.size w w') : W w0 g f w' := ⟨h.1.below hb, h.2.1.below hb, below_after h.2.2 hb⟩
/-- what each operation leaves -/
def L (g : Nat → Nat) (f : Nat → Bool) (c : Int) : List (Value → World → Prop) := [Is (ar g), Is (.bool (rightV g)), Is (ar g), Is (.bool (rightV g)), Is (.bool true), Is (.bool true), Is (ar g), Is (.int .i64 (wid g 256)), Is (ar g), Is (.int .i64 (wid g 256)), Is (.bool true), Is (.bool true), Is (.bool true), Is (ar g), Is (.int .i64 c), rowP g c, Is (.string (txtC g c)), Is (ar g), Is (.int .i64 c), rowP g c, Is (.string (txtC g c)), Is (.bool true), Is (.bool true), Is (.bool true), Is (ar g), Is ((.agg #[.int .u64 (word (f) 0), .int .u64 (word (f) 1), .int .u64 (word (f) 2), .int .u64 (word (f) 3)])), Is (ar (clsK (key2 g f))), Is (ar g), Is ((.agg #[.int .u64 (word (f) 0), .int .u64 (word (f) 1), .int .u64 (word (f) 2), .int .u64 (word (f) 3)])), Is (ar (clsK (key2 g f))), Is (.bool true), Is (.bool true), Is (.bool true), Is (.bool true), Is (.bool true), Is (.bool true)]
theorem L.mono (g : Nat → Nat) (f : Nat → Bool) (c : Int) : ∀ p ∈ L g f c, ∀ v w w', p v w → Below w.heap.size w w' → p v w' := by
  unfold L
  simp only [List.forall_mem_cons]
  repeat' (first | exact is_mono _ | exact rowP.mono g c | (intro p hp; cases hp; done) | refine And.intro ?_ ?_)

set_option maxHeartbeats 4000000 in
set_option maxRecDepth 100000 in
theorem walk (g : Nat → Nat) (c : Int) (f : Nat → Bool) (w : World) (hg : ∀ j, j < 256 → g j < 256) (_hc : -9223372036854775808 ≤ c ∧ c ≤ 9223372036854775807) :
    Calls Try.prog 4 #[ar g, .int .i64 c, (.agg #[.int .u64 (word (f) 0), .int .u64 (word (f) 1), .int .u64 (word (f) 2), .int .u64 (word (f) 3)])] w fun e w' => e = .returned (.bool true) ∧ Below w.heap.size w w' := by
  have HG := hidden hg
  clear hg
  have hbx := run_box_arr g
  have hst : W w g f (((w.alloc (.cells (cellsN (nV g)) 24)).alloc (.cells #[.int .u64 (word (f) 0), .int .u64 (word (f) 1), .int .u64 (word (f) 2), .int .u64 (word (f) 3)] 32)).drew) :=
    ⟨(ArrAt.new _ _ _).alloc _, SetAt.newAt (w.alloc (.cells (cellsN (nV g)) 24)) f _ (by simp), by go_grown⟩
  have HST := hidden hst
  clear hst
  go_enter Try.func4, Try.ntmps4
  go_wp2
  refine wp_region_steps (typ (L g f c)) (W w g f) (by kernel_rfl) (by kernel_rfl) (by kernel_rfl) (by kernel_rfl) (typ_mono (L.mono g f c)) HST.out [5, 12, 23, 32] (by kernel_rfl) ?guards ?step ?fin
  case guards =>
    intro k hk v w h
    simp at hk
    rcases hk with rfl | rfl | rfl | rfl <;> exact h
  case fin =>
    intro a w1 hs hv hW
    rename_i Q' K hK
    refine hK a w1 ?_
    have h6 : a.tmps.getD 6 undef = .bool true := hv 35 6 (by kernel_rfl)
    have hd := hs.defers
    go_wp2
    refine bodyPost_ret (results_tmp rfl _ _ _) hd ?_
    rw [h6]
    exact ⟨rfl, hW.2.2⟩
  case step =>
    refine ⟨?_, ?_, ?_, ?_, ?_, ?_, ?_, ?_, ?_, ?_, ?_, ?_, ?_, ?_, ?_, ?_, ?_, ?_, ?_, ?_, ?_, ?_, ?_, ?_, ?_, ?_, ?_, ?_, ?_, ?_, ?_, ?_, ?_, ?_, ?_, ?_, trivial⟩
    · intro ρ w1 hF hW
      have HW := hidden hW
      have e3 : ρ 3 = .pointer (some ⟨w.heap.size, 0, none⟩) := hF 3 (by decide)
      clear hF hW
      exact does_load rfl e3 HW.out.1 ⟨rfl, HW.out, Below.refl _ _⟩
    · intro ρ w1 hF hW
      have HW := hidden hW
      have e7 : ρ 7 = ar g := hF 7 (by decide)
      clear hF hW
      unfold Does
      go_simp
      refine (right_calls g _ HG.out).mono ?_
      rintro e w2 ⟨rfl, hb⟩
      exact ⟨_, rfl, rfl, Wm HW.out hb, hb⟩
    · intro ρ w1 hF hW
      have HW := hidden hW
      have e3 : ρ 3 = .pointer (some ⟨w.heap.size, 0, none⟩) := hF 3 (by decide)
      clear hF hW
      exact does_load rfl e3 HW.out.1 ⟨rfl, HW.out, Below.refl _ _⟩
    · intro ρ w1 hF hW
      have HW := hidden hW
      have e9 : ρ 9 = ar g := hF 9 (by decide)
      clear hF hW
      unfold Does
      go_simp
      refine (rright_calls g _ HG.out).mono ?_
      rintro e w2 ⟨rfl, hb⟩
      exact ⟨_, rfl, rfl, Wm HW.out hb, hb⟩
    · intro ρ w1 hF hW
      have HW := hidden hW
      have e8 : ρ 8 = .bool (rightV g) := hF 8 (by decide)
      have e10 : ρ 10 = .bool (rightV g) := hF 10 (by decide)
      clear hF hW
      unfold Does
      go_simp
      exact ⟨rfl, HW.out, Below.refl _ _⟩
    · intro ρ w1 hF hW
      have HW := hidden hW
      have e11 : ρ 11 = .bool true := hF 11 (by decide)
      clear hF hW
      unfold Does
      go_simp
      exact ⟨rfl, HW.out, Below.refl _ _⟩
    · intro ρ w1 hF hW
      have HW := hidden hW
      have e3 : ρ 3 = .pointer (some ⟨w.heap.size, 0, none⟩) := hF 3 (by decide)
      clear hF hW
      exact does_load rfl e3 HW.out.1 ⟨rfl, HW.out, Below.refl _ _⟩
    · intro ρ w1 hF hW
      have HW := hidden hW
      have e13 : ρ 13 = ar g := hF 13 (by decide)
      clear hF hW
      unfold Does
      go_simp
      refine (width_calls g _ HG.out).mono ?_
      rintro e w2 ⟨rfl, hb⟩
      exact ⟨_, rfl, rfl, Wm HW.out hb, hb⟩
    · intro ρ w1 hF hW
      have HW := hidden hW
      have e3 : ρ 3 = .pointer (some ⟨w.heap.size, 0, none⟩) := hF 3 (by decide)
      clear hF hW
      exact does_load rfl e3 HW.out.1 ⟨rfl, HW.out, Below.refl _ _⟩
    · intro ρ w1 hF hW
      have HW := hidden hW
      have e15 : ρ 15 = ar g := hF 15 (by decide)
      clear hF hW
      unfold Does
      go_simp
      refine (rwidth_calls g _ HG.out).mono ?_
      rintro e w2 ⟨rfl, hb⟩
      exact ⟨_, rfl, rfl, Wm HW.out hb, hb⟩
    · intro ρ w1 hF hW
      have HW := hidden hW
      have e14 : ρ 14 = .int .i64 (wid g 256) := hF 14 (by decide)
      have e16 : ρ 16 = .int .i64 (wid g 256) := hF 16 (by decide)
      clear hF hW
      unfold Does
      go_simp
      exact ⟨rfl, HW.out, Below.refl _ _⟩
    · intro ρ w1 hF hW
      have HW := hidden hW
      have e12 : ρ 12 = .bool true := hF 12 (by decide)
      have e17 : ρ 17 = .bool true := hF 17 (by decide)
      clear hF hW
      unfold Does
      go_simp
      exact ⟨rfl, HW.out, Below.refl _ _⟩
    · intro ρ w1 hF hW
      have HW := hidden hW
      have e18 : ρ 18 = .bool true := hF 18 (by decide)
      clear hF hW
      unfold Does
      go_simp
      exact ⟨rfl, HW.out, Below.refl _ _⟩
    · intro ρ w1 hF hW
      have HW := hidden hW
      have e3 : ρ 3 = .pointer (some ⟨w.heap.size, 0, none⟩) := hF 3 (by decide)
      clear hF hW
      exact does_load rfl e3 HW.out.1 ⟨rfl, HW.out, Below.refl _ _⟩
    · intro ρ w1 hF hW
      have HW := hidden hW
      have e1 : ρ 1 = .int .i64 c := hF 1 (by decide)
      clear hF hW
      unfold Does
      go_simp
      exact ⟨rfl, HW.out, Below.refl _ _⟩
    · intro ρ w1 hF hW
      have HW := hidden hW
      have e20 : ρ 20 = ar g := hF 20 (by decide)
      have e21 : ρ 21 = .int .i64 c := hF 21 (by decide)
      clear hF hW
      unfold Does
      go_simp
      refine (bytes_calls g c _ HG.out).mono ?_
      rintro e w2 ⟨v, rfl, hr, hb⟩
      exact ⟨v, rfl, row_mono hr (Nat.zero_le _), Wm HW.out hb, hb⟩
    · intro ρ w1 hF hW
      have HW := hidden hW
      have e22 : rowP g c (ρ 22) w1 := hF 22 (by decide)
      clear hF hW
      have hq := row_text e22
      clear e22
      unfold Does
      go_simp
      exact ⟨rfl, HW.out, Below.refl _ _⟩
    · intro ρ w1 hF hW
      have HW := hidden hW
      have e3 : ρ 3 = .pointer (some ⟨w.heap.size, 0, none⟩) := hF 3 (by decide)
      clear hF hW
      exact does_load rfl e3 HW.out.1 ⟨rfl, HW.out, Below.refl _ _⟩
    · intro ρ w1 hF hW
      have HW := hidden hW
      have e1 : ρ 1 = .int .i64 c := hF 1 (by decide)
      clear hF hW
      unfold Does
      go_simp
      exact ⟨rfl, HW.out, Below.refl _ _⟩
    · intro ρ w1 hF hW
      have HW := hidden hW
      have e24 : ρ 24 = ar g := hF 24 (by decide)
      have e25 : ρ 25 = .int .i64 c := hF 25 (by decide)
      clear hF hW
      unfold Does
      go_simp
      refine (rbytes_calls g c _ HG.out).mono ?_
      rintro e w2 ⟨v, rfl, hr, hb⟩
      exact ⟨v, rfl, row_mono hr (Nat.zero_le _), Wm HW.out hb, hb⟩
    · intro ρ w1 hF hW
      have HW := hidden hW
      have e26 : rowP g c (ρ 26) w1 := hF 26 (by decide)
      clear hF hW
      have hq := row_text e26
      clear e26
      unfold Does
      go_simp
      exact ⟨rfl, HW.out, Below.refl _ _⟩
    · intro ρ w1 hF hW
      have HW := hidden hW
      have e23 : ρ 23 = .string (txtC g c) := hF 23 (by decide)
      have e27 : ρ 27 = .string (txtC g c) := hF 27 (by decide)
      clear hF hW
      unfold Does
      go_simp
      exact ⟨rfl, HW.out, Below.refl _ _⟩
    · intro ρ w1 hF hW
      have HW := hidden hW
      have e19 : ρ 19 = .bool true := hF 19 (by decide)
      have e28 : ρ 28 = .bool true := hF 28 (by decide)
      clear hF hW
      unfold Does
      go_simp
      exact ⟨rfl, HW.out, Below.refl _ _⟩
    · intro ρ w1 hF hW
      have HW := hidden hW
      have e29 : ρ 29 = .bool true := hF 29 (by decide)
      clear hF hW
      unfold Does
      go_simp
      exact ⟨rfl, HW.out, Below.refl _ _⟩
    · intro ρ w1 hF hW
      have HW := hidden hW
      have e3 : ρ 3 = .pointer (some ⟨w.heap.size, 0, none⟩) := hF 3 (by decide)
      clear hF hW
      exact does_load rfl e3 HW.out.1 ⟨rfl, HW.out, Below.refl _ _⟩
    · intro ρ w1 hF hW
      have HW := hidden hW
      have e5 : ρ 5 = .pointer (some ⟨w.heap.size + 1, 0, none⟩) := hF 5 (by decide)
      clear hF hW
      obtain ⟨c0, c1, c2, c3, _, _, _, _⟩ := HW.out.2.1.facts
      unfold Does
      go_simp
      exact ⟨rfl, HW.out, Below.refl _ _⟩
    · intro ρ w1 hF hW
      have HW := hidden hW
      have e31 : ρ 31 = ar g := hF 31 (by decide)
      have e32 : ρ 32 = (.agg #[.int .u64 (word (f) 0), .int .u64 (word (f) 1), .int .u64 (word (f) 2), .int .u64 (word (f) 3)]) := hF 32 (by decide)
      clear hF hW
      unfold Does
      go_simp
      refine (split_calls g f _ HG.out).mono ?_
      rintro e w2 ⟨rfl, hb⟩
      exact ⟨_, rfl, rfl, Wm HW.out hb, hb⟩
    · intro ρ w1 hF hW
      have HW := hidden hW
      have e3 : ρ 3 = .pointer (some ⟨w.heap.size, 0, none⟩) := hF 3 (by decide)
      clear hF hW
      exact does_load rfl e3 HW.out.1 ⟨rfl, HW.out, Below.refl _ _⟩
    · intro ρ w1 hF hW
      have HW := hidden hW
      have e5 : ρ 5 = .pointer (some ⟨w.heap.size + 1, 0, none⟩) := hF 5 (by decide)
      clear hF hW
      obtain ⟨c0, c1, c2, c3, _, _, _, _⟩ := HW.out.2.1.facts
      unfold Does
      go_simp
      exact ⟨rfl, HW.out, Below.refl _ _⟩
    · intro ρ w1 hF hW
      have HW := hidden hW
      have e34 : ρ 34 = ar g := hF 34 (by decide)
      have e35 : ρ 35 = (.agg #[.int .u64 (word (f) 0), .int .u64 (word (f) 1), .int .u64 (word (f) 2), .int .u64 (word (f) 3)]) := hF 35 (by decide)
      clear hF hW
      unfold Does
      go_simp
      refine (rsplit_calls g f _ HG.out).mono ?_
      rintro e w2 ⟨rfl, hb⟩
      exact ⟨_, rfl, rfl, Wm HW.out hb, hb⟩
    · intro ρ w1 hF hW
      have HW := hidden hW
      have e33 : ρ 33 = ar (clsK (key2 g f)) := hF 33 (by decide)
      have e36 : ρ 36 = ar (clsK (key2 g f)) := hF 36 (by decide)
      clear hF hW
      have hq := eq_same w1 (g := clsK (key2 g f)) (h := clsK (key2 g f)) fun _ _ => rfl
      unfold Does
      go_simp
      exact ⟨rfl, HW.out, Below.refl _ _⟩
    · intro ρ w1 hF hW
      have HW := hidden hW
      have e30 : ρ 30 = .bool true := hF 30 (by decide)
      have e37 : ρ 37 = .bool true := hF 37 (by decide)
      clear hF hW
      unfold Does
      go_simp
      exact ⟨rfl, HW.out, Below.refl _ _⟩
    · intro ρ w1 hF hW
      have HW := hidden hW
      have e38 : ρ 38 = .bool true := hF 38 (by decide)
      clear hF hW
      unfold Does
      go_simp
      exact ⟨rfl, HW.out, Below.refl _ _⟩
    · intro ρ w1 hF hW
      have HW := hidden hW
      clear hF hW
      unfold Does
      go_simp
      refine (knows_calls _).mono ?_
      rintro e w2 ⟨rfl, hb⟩
      exact ⟨_, rfl, rfl, Wm HW.out hb, hb⟩
    · intro ρ w1 hF hW
      have HW := hidden hW
      have e39 : ρ 39 = .bool true := hF 39 (by decide)
      have e40 : ρ 40 = .bool true := hF 40 (by decide)
      clear hF hW
      unfold Does
      go_simp
      exact ⟨rfl, HW.out, Below.refl _ _⟩
    · intro ρ w1 hF hW
      have HW := hidden hW
      have e41 : ρ 41 = .bool true := hF 41 (by decide)
      clear hF hW
      unfold Does
      go_simp
      exact ⟨rfl, HW.out, Below.refl _ _⟩

set_option maxRecDepth 100000 in
theorem lifted (os : Os) (started : os.Started) (H : Type) (enc : TypeId × Value → H) :
    ReturnsInHanded {} Try.checked os 4 .any (Rows.kindAsksSpec.pre6 enc Try.prog Try.f4 Rows.kindAsksRow.domain false) (Rows.kindAsksSpec.post enc Try.prog Try.f4 false true false false) := by
  refine returnsInHanded_of_change (C := Try.checked) own started (by kernel_rfl) Try.func4
    (ChangeSpec.witness6 (enc := enc) (C := Try.checked) false ⟨#[], #[.agg (Array.replicate 256 (.int .u8 0)), .int .i64 0, .agg #[.int .u64 0, .int .u64 0, .int .u64 0, .int .u64 0]], []⟩ 8 (by kernel_rfl) (by kernel_rfl) (by kernel_rfl) (by kernel_rfl)) ?_
  intro W base args ds gs before hval0 hW hcnd _
  have hval : ∀ (j : Nat) t v, Try.f4.params[j]? = some t → args[j]? = some v → Value.okWide Try.prog W .any base t v := hval0
  have hW' : DataW.Whole enc Try.prog Try.f4.params.toList Rows.kindAsksSpec.vars false W args.toList ds gs before := hW
  obtain ⟨p, q, hA0, hV, rfl, hfz, hnd⟩ := hW
  have hA : DataW.TrodAll enc Try.prog W 0 (fun _ => true) true Try.f4.params.toList args.toList ds p := hA0
  have hlt : ∀ x ∈ p, x.block < W.heap.size := fun x hx => hW'.lt x (List.mem_append_left _ hx)
  rw [Try.params4] at hA hval
  obtain ⟨v0, vs0, d0, ds0, p0, q0, hargs, hd0, hp0, h0, r0⟩ := trodAll_cons hA
  obtain ⟨v1, vs1, d1, ds1, p1, q1, rfl, hd1, hp1, h1, r1⟩ := trodAll_cons r0
  obtain ⟨v2, vs2, d2, ds2, p2, q2, rfl, hd2, hp2, h2, r2⟩ := trodAll_cons r1
  obtain ⟨rfl, _, _⟩ := trodAll_nil r2
  obtain rfl : args = #[v0, v1, v2] := by cases args; simp_all
  obtain ⟨a0, rfl, w0⟩ := open_arr (hval 0 24 v0 rfl rfl) h0
  obtain ⟨a1, rfl, _, _, w1⟩ := open_int Try.underlying3 (hval 1 3 v1 rfl rfl) h1
  obtain ⟨a2, rfl⟩ := open_set (hval 2 32 v2 rfl rfl) h2
  refine (walk a0 a1 a2 W w0 (wf_i64 w1)).mono fun e W' ⟨he, hb⟩ => ⟨_, he, ends_true hW' rfl (by kernel_rfl) ?_ (by kernel_rfl) hb⟩
  intro xs hxs
  match xs, hxs with
  | [_, _, _], _ => rfl

theorem proved : Rows.KindAsksSaid :=
  OpenClaim.holds_of_wide 4 Try.f4 rfl rfl rfl rfl rfl rfl rfl ⟨rfl, rfl, rfl, rfl, rfl⟩ rfl rfl rfl rfl rfl (by kernel_rfl) Try.func4 (by kernel_rfl)
    (of_decide_eq_true (by kernel_rfl)) (by unfold Func.isWrapper; first | (rw [if_pos (by decide +kernel)]; kernel_rfl) | (rw [if_neg (by decide +kernel)]; exact ⟨rfl, rfl⟩))
    (fun os started H enc _ => lifted os started H enc)
end Go.Proofs.Ytanjpajnciifiaa.lawKindAsks
