/- Base, FaRdC, put together. -/
import Derived.Test.YthkboclooplpeaaGreatDoorRows
import Derived.WalkKit
import Derived.ProofKit
import Derived.RegionTactic
import Derived.ChangeAlike
import Derived.Outline
import Derived.LoopTactic
import Derived.Laws.BytesArg
import Derived.Deep.QuietTactic
import Derived.BigQuiet
import Derived.OpenShut
import Derived.ShutString
import Derived.ChangeOld
import Derived.SizedLaws
/- Small words that all of my texts share: facts kept from the walk, equality of texts, results. -/
namespace Go.Proofs.YthkboclooplpeaaGreatDoor
open Go.RowKit

theorem hidden {p : Prop} (h : p) : Hid p := h

/-- two texts are equal as the walk asks it -/
theorem text_eq {a b : ByteArray} (h : (a.toList == b.toList) = true) : a = b := by
  rw [beq_iff_eq, ByteArray.toList_eq, ByteArray.toList_eq] at h
  exact Go.WideShapes.bytes_inj h
theorem text_ne {a b : ByteArray} (h : (a.toList == b.toList) = false) : a ≠ b := by
  rintro rfl
  simp at h
theorem text_same (a : ByteArray) : (a.toList == a.toList) = true := by simp
theorem text_other {a b : ByteArray} (h : a ≠ b) : (a.toList == b.toList) = false := by
  rw [Bool.eq_false_iff]
  exact fun e => h (text_eq e)

/-- results, as numbers -/
theorem ret_i {k : IntKind} {a b : Int} (h : a = b) : Ending.returned (.int k a) = .returned (.int k b) := by rw [h]
theorem ret_b {a b : Bool} (h : a = b) : Ending.returned (.bool a) = .returned (.bool b) := by rw [h]
theorem ret_s {a b : ByteArray} (h : a = b) : Ending.returned (.string a) = .returned (.string b) := by rw [h]
theorem ret_ib {k : IntKind} {a b : Int} {c d : Bool} (h : a = b) (h' : c = d) : Ending.returned (.tuple #[.int k a, .bool c]) = .returned (.tuple #[.int k b, .bool d]) := by rw [h, h']
theorem ret_ii {k k' : IntKind} {a b c d : Int} (h : a = b) (h' : c = d) : Ending.returned (.tuple #[.int k a, .int k' c]) = .returned (.tuple #[.int k b, .int k' d]) := by rw [h, h']

/-- what was below the first number stays, over a second step whose number is its own world's -/
theorem below_then {B : Nat} {a w w' : World} (h : Below B a w) (hB : B ≤ w.heap.size) (k : Below w.heap.size w w') : Below B a w' := h.trans (k.mono hB)
theorem below_after {a w w' : World} (h : Below a.heap.size a w) (k : Below w.heap.size w w') : Below a.heap.size a w' := below_then h h.size k
theorem below_drawn {B : Nat} {a w : World} (h : Below B a w) (n : Nat) : Below B a (w.drewN n) := ⟨h.os, h.tape, h.output, h.size, h.block⟩

theorem own : ownKnob Tryz.prog.godebug = none := by kernel_rfl
theorem laidOut : laidOutB Tryz.prog = true := by kernel_rfl

theorem wf_i64 {n : Int} (h : (Lit.int .i64 n).wf = true) : -9223372036854775808 ≤ n ∧ n ≤ 9223372036854775807 := by
  simpa [Lit.wf, IntKind.min, IntKind.max, IntKind.signed, IntKind.bits] using h
theorem wf_u8 {n : Int} (h : (Lit.int .u8 n).wf = true) : 0 ≤ n ∧ n ≤ 255 := by
  simpa [Lit.wf, IntKind.min, IntKind.max, IntKind.signed, IntKind.bits] using h

section
open Go.ChangeShapes Go.WideShapes Go.ChangeAt
theorem cell_lt {w : World} {b o : Nat} {v : Value} (h : w.cell? ⟨b, o, none⟩ = some v) : b < w.heap.size := by
  rcases Nat.lt_or_ge b w.heap.size with hlt | hge
  · exact hlt
  · unfold World.cell? at h
    rw [Array.getElem?_eq_none hge] at h
    cases h
/-- a slice of numbers that reads as a list, below block B -/
def Ints (k : IntKind) (w : World) (B : Nat) (a : Option Addr) (len : Nat) (xs : List Int) : Prop :=
  xs.length = len ∧ (0 < len → ∃ b off, a = some ⟨b, off, none⟩ ∧ b < B ∧ ∀ i, i < len → w.cell? ⟨b, off + i, none⟩ = some (.int k (xs.getD i 0)))
theorem ints_below {k : IntKind} {w w' : World} {B : Nat} {a : Option Addr} {len : Nat} {xs : List Int} (h : Ints k w B a len xs) (hb : Below B w w') : Ints k w' w'.heap.size a len xs := by
  refine ⟨h.1, fun hp => ?_⟩
  obtain ⟨b, off, e, hB, hc⟩ := h.2 hp
  have e' : ∀ i, i < len → w'.cell? ⟨b, off + i, none⟩ = some (.int k (xs.getD i 0)) := fun i hi => (hb.cell (p := ⟨b, off + i, none⟩) hB).trans (hc i hi)
  exact ⟨b, off, e, cell_lt (e' 0 hp), e'⟩
def Fits (k : IntKind) (xs : List Int) : Prop := ∀ i, i < xs.length → (Lit.int k (xs.getD i 0)).wf = true
theorem open_slice_ints {H : Type} {enc : TypeId × Value → H} {k : IntKind} {t e : TypeId} {W : World} {a : Option Addr} {len cap : Nat} {d : DataW H} {p : List MemPlace}
    (ht : Tryz.prog.underlying t = some (.slice e)) (he : Tryz.prog.underlying e = some (.int k)) (hc : Tryz.prog.cellsOf e = 1)
    (h : DataW.Trod enc Tryz.prog W 0 (fun _ => true) true t (.slice a len cap) d p) : ∃ zs, (len ≤ cap ∧ cap ≤ maxLen ∧ Fits k zs ∧ Ints k W W.heap.size a len zs) ∧ (cap = 0 ∨ ∃ es sp, d = .slice es sp ∧ es.length + sp.length = cap) := by
  obtain ⟨fuel, hf⟩ := h
  rcases open_ints ht he hc hf with ⟨hcs, _⟩ | ⟨x, l, c, zs, hcs, _, hl, hm, hz, hx, hcell, hwz⟩
  · simp [Value.cells] at hcs
    obtain ⟨rfl, rfl, rfl⟩ := hcs
    exact ⟨[], ⟨Nat.le_refl _, Nat.zero_le _, fun i hi => absurd hi (by simp), rfl, fun h => absurd h (by omega)⟩, .inl rfl⟩
  · simp [Value.cells] at hcs
    obtain ⟨rfl, rfl, rfl⟩ := hcs
    have hz' : zs.length = cap := by simpa using hz
    have hget : ∀ i, i < len → (zs.take len).getD i 0 = zs.getD i 0 := fun i hi => by
      simp [List.getD_eq_getElem?_getD, hi]
    simp only [Prod.mk.injEq] at hx
    refine ⟨zs.take len, ⟨hl, hm, fun i hi => ?_, by simp; omega, fun hp => ?_⟩, .inr ⟨_, _, hx.1, by simp [lits]; omega⟩⟩
    · have hi' : i < len := by simp at hi; omega
      rw [hget i hi']
      refine hwz _ ?_
      rw [List.getD_eq_getElem?_getD, List.getElem?_eq_getElem (by omega)]
      exact List.getElem_mem _
    · obtain ⟨b, off, spot⟩ := x
      have h0 := hcell 0 (by omega)
      have hspot : spot = none := by simpa [Addr.add] using World.cell?_spot h0
      subst hspot
      rw [Addr.add_lit] at h0
      refine ⟨b, off, rfl, cell_lt h0, fun i hi => ?_⟩
      have := hcell i (by omega)
      rw [Addr.add_lit] at this
      rw [hget i hi]
      exact this

/-- what came in reads as it did, over all of the parameters -/
theorem all_read {H : Type} {enc : TypeId × Value → H} {W W' : World} (hb : Below W.heap.size W W') : ∀ {ts : List TypeId} {vs : List Value} {ds : List (DataW H)} {ps : List MemPlace},
    (∀ t ∈ ts, Tryz.prog.readableRec t = true ∧ t < Tryz.prog.types.size) → DataW.TrodAll enc Tryz.prog W 0 (fun _ => true) true ts vs ds ps → (∀ x ∈ ps, x.block < W.heap.size) →
    DataW.TrodAll enc Tryz.prog W' 0 (fun b => decide (b < W.heap.size)) true ts vs ds ps
  | [], vs, ds, ps, _, h, _ => by
    obtain ⟨rfl, rfl, rfl⟩ := trodAll_nil h
    exact trodAll_mk0
  | t :: ts, vs, ds, ps, hr, h, hlt => by
    obtain ⟨v, vs', d, ds', p, q, rfl, rfl, rfl, h0, h1⟩ := trodAll_cons h
    exact trodAll_cons_mk (Below.trod laidOut (hr t (List.mem_cons_self ..)).1 (hr t (List.mem_cons_self ..)).2 h0 hb (fun x hx => hlt x (List.mem_append_left _ hx)))
      (all_read hb (fun t' ht' => hr t' (List.mem_cons_of_mem _ ht')) h1 (fun x hx => hlt x (List.mem_append_right _ hx)))

theorem read_len {H : Type} {enc : TypeId × Value → H} {W : World} {b : Nat} {sp : Nat → Bool} {hd : Bool} : ∀ {ts : List TypeId} {vs : List Value} {ds : List (DataW H)} {ps : List MemPlace},
    DataW.TrodAll enc Tryz.prog W b sp hd ts vs ds ps → ds.length = ts.length
  | [], vs, ds, ps, h => by
    obtain ⟨rfl, rfl, rfl⟩ := trodAll_nil h
    rfl
  | t :: ts, vs, ds, ps, h => by
    obtain ⟨v, vs', d, ds', p, q, rfl, rfl, rfl, h0, h1⟩ := trodAll_cons h
    simp [read_len h1]

/-- THE LAST STEP OF EVERY LAW: true came back, and nothing that was there has turned -/
theorem ends_true {H : Type} {enc : TypeId × Value → H} {f : Func} {s : ChangeSpec} {W W' : World} {args : Array Value} {ds gs : List (DataW H)} {before : List MemPlace}
    (hW : DataW.Whole enc Tryz.prog f.params.toList s.vars false W args.toList ds gs before) (hv : s.vars = []) (hres : f.resultTypes = #[4])
    (hfn : ∀ xs : List (DataW H), xs.length = f.params.toList.length → s.fn H xs = { results := [.lit (.bool true)], args := xs })
    (hread : (f.params.toList.all fun t => Tryz.prog.readableRec t && decide (t < Tryz.prog.types.size)) = true) (hb : Below W.heap.size W W') :
    s.post enc Tryz.prog f false true false false W args (.bool true) W' := by
  have hW' := hW
  obtain ⟨p, q, hA, hV, rfl, hfz, hnd⟩ := hW
  have hlt : ∀ x ∈ p ++ q, x.block < W.heap.size := fun x hx => hW'.lt x hx
  have hread' : ∀ t ∈ f.params.toList, Tryz.prog.readableRec t = true ∧ t < Tryz.prog.types.size := fun t ht => by
    have := List.all_eq_true.1 hread t ht
    simpa using this
  have hlen := read_len hA
  rw [hv] at hV
  obtain ⟨rfl, rfl⟩ := trodVars_none hV
  have e := hfn (ds ++ []) (by simpa using hlen)
  refine ⟨ds, [], _, [], p, [], hW', ?_, ?_, ?_, hb.frame _, fun h => by cases h⟩
  · rw [e, hres]
    exact trodAll_mk1 (shut_bool Tryz.underlying4 _)
  · rw [e, List.append_nil]
    exact all_read hb hread' hA (fun x hx => hlt x (List.mem_append_left _ hx))
  · rw [e, hv]
    rfl
end
end Go.Proofs.YthkboclooplpeaaGreatDoor

/- The reference's reader: a byte that stands for itself. -/
namespace Go.Proofs.YthkboclooplpeaaGreatDoor
open Go.RowKit

def txt (l : List UInt8) : ByteArray := ⟨l.toArray⟩
theorem txt_list (s : ByteArray) : txt s.data.toList = s := rfl
theorem list_txt (l : List UInt8) : (txt l).data.toList = l := rfl
theorem txt_size (l : List UInt8) : (txt l).size = l.length := rfl
def vis (n : Nat) : Bool := decide (32 < n) && decide (n ≤ 126)
theorem toNat_ne {c d : UInt8} (h : c ≠ d) : ((c.toNat : Int) == (d.toNat : Int)) = false := by
  rw [Bool.eq_false_iff]
  intro e
  rw [beq_iff_eq] at e
  exact h (UInt8.toNat_inj.1 (by omega))
theorem drop_at {s : ByteArray} {k : Nat} {c : UInt8} {r : List UInt8} (h : s.data.toList.drop k = c :: r) : (∃ hp : k < s.size, s[k]'hp = c) ∧ s.data.toList.drop (k + 1) = r ∧ r.length + k + 1 = s.size := by
  have hl : k < s.data.toList.length := by
    rcases Nat.lt_or_ge k s.data.toList.length with g | g
    · exact g
    · rw [List.drop_eq_nil_of_le g] at h
      cases h
  have hs : s.data.toList.length = s.size := by simp
  rw [List.drop_eq_getElem_cons hl] at h
  obtain ⟨h1, h2⟩ := List.cons.inj h
  refine ⟨⟨by omega, ?_⟩, h2, ?_⟩
  · rw [← h1]
    rfl
  · rw [← h2, List.length_drop]
    omega
theorem drop_nil {s : ByteArray} {k : Nat} (h : s.data.toList.drop k = []) : s.size ≤ k := by
  have := List.drop_eq_nil_iff.1 h
  simpa using this
/-- the byte at a place, as a number -/
theorem num_at {s : ByteArray} {k : Nat} {c : UInt8} (h : ∃ hp : k < s.size, s[k]'hp = c) : ∃ hp : k < s.size, ((s[k]'hp).toNat : Int) = (c.toNat : Int) := by
  obtain ⟨hp, e⟩ := h
  exact ⟨hp, by rw [e]⟩

set_option maxRecDepth 100000 in
theorem seen_calls (n : Nat) (w : World) : Calls Tryz.prog 133 #[.int .u8 n] w fun e w' => e = .returned (.bool (vis n)) ∧ w = w' := by
  have hv : vis n = (decide (32 < n) && decide (n ≤ 126)) := rfl
  have HV := hidden hv
  clear hv
  by_cases h1 : 32 < n
  · have d1 : decide ((33 : Int) ≤ n) = true := decide_eq_true (by omega)
    rw [decide_eq_true h1, Bool.true_and] at HV
    have d2 : decide ((n : Int) ≤ 126) = decide (n ≤ 126) := by simp; omega
    generalize decide (n ≤ 126) = c at *
    go_enter Tryz.func133, Tryz.ntmps133
    go_wp2
    go_ret
    exact ⟨ret_b HV.out.symm, rfl⟩
  · have d1 : decide ((33 : Int) ≤ n) = false := decide_eq_false (by omega)
    rw [decide_eq_false h1, Bool.false_and] at HV
    go_enter Tryz.func133, Tryz.ntmps133
    go_wp2
    go_ret
    exact ⟨ret_b HV.out.symm, rfl⟩
set_option maxHeartbeats 2000000 in
set_option maxRecDepth 100000 in
theorem in_calls (R : List UInt8) (c : UInt8) (w : World) (hR : R.length ≤ 1000) : Calls Tryz.prog 114 #[.string (txt R), .int .u8 (c.toNat : Int)] w fun e w' => e = .returned (.bool (decide (c ∈ R))) ∧ w = w' := by
  obtain ⟨s, hs⟩ : ∃ s, s = txt R := ⟨_, rfl⟩
  have hL : s.data.toList = R := by rw [hs]; rfl
  have hsz : s.size ≤ 1000 := by rw [hs, txt_size]; exact hR
  have HRes := hidden (fun (b : Bool) (h : (c ∈ R) ↔ b = true) => (show decide (c ∈ R) = b by cases b <;> simp_all))
  rw [← hs]
  have hne : ∀ d : UInt8, d ≠ c → (((d.toNat : Int)) == (c.toNat : Int)) = false := fun d h => toNat_ne h
  have HNE := hidden hne
  have HL := hidden hL
  obtain ⟨n, hn⟩ : ∃ n : Int, n = (c.toNat : Int) := ⟨_, rfl⟩
  rw [← hn] at HNE ⊢
  have HN := hidden hn
  clear hs hL hR hne hn
  go_enter Tryz.func114, Tryz.ntmps114
  go_wp2
  go_loop [5] (fun i => ∃ k : Nat, k ≤ s.size ∧ i = .int .i64 k ∧ Hid ((c ∈ R) ↔ c ∈ R.drop k)) (fun i => s.size - (RowKit.intOf i).toNat)
  case atStart => exact ⟨0, by omega, rfl, hidden Iff.rfl⟩
  case round =>
    obtain ⟨k, hk, rfl, hm⟩ := hrel
    match hd : R.drop k with
    | [] =>
      rw [← HL.out] at hd
      have h0 := drop_nil hd
      have q0 : decide ((k : Int) < s.size) = false := decide_eq_false (by omega)
      have HF := hidden (HRes.out false (by rw [hm.out, ← HL.out, hd]; simp))
      clear hm hd
      go_wp2
      go_ret
      exact ⟨ret_b HF.out.symm, rfl⟩
    | d :: t =>
      have hd2 := hd
      rw [← HL.out] at hd2
      obtain ⟨h1, h2, h3⟩ := drop_at hd2
      obtain ⟨hp, hx⟩ := num_at h1
      have q0 : decide ((k : Int) < s.size) = true := decide_eq_true (by omega)
      have hadd : IntKind.i64.wrap ((k : Int) + 1) = (k : Int) + 1 := by rw [IntKind.wrap_i64]; omega
      by_cases hdc : d = c
      · have HF := hidden (HRes.out true (by rw [hm.out, hd, hdc]; simp))
        have q1 : ((d.toNat : Int) == n) = true := by rw [hdc, HN.out]; simp
        generalize (d.toNat : Int) = m at *
        clear hm hd hd2 h1 h2 h3 hdc
        go_wp2
        go_ret
        exact ⟨ret_b HF.out.symm, rfl⟩
      · have HM := hidden (show (c ∈ R) ↔ c ∈ R.drop (k + 1) by
          rw [hm.out, hd, ← HL.out, h2]
          simp [Ne.symm hdc])
        have q1 := HNE.out d hdc
        generalize (d.toNat : Int) = m at *
        clear hm hd hd2 h1 h2 hdc
        go_wp2
        go_round
        case rel => exact ⟨k + 1, by omega, by go_num, HM⟩
        case measure => simp [RowKit.intOf]; omega
/-- the byte of a text at a place -/
def At (s : ByteArray) (p : Nat) (c : UInt8) : Prop := ∃ hp : p < s.size, ((s[p]'hp).toNat : Int) = (c.toNat : Int)
theorem byte_ne {c d : UInt8} (h : c ≠ d) : ((c.toNat : Int) == (d.toNat : Int)) = false := toNat_ne h
set_option maxRecDepth 100000 in
theorem rchar_at (s : ByteArray) (p : Nat) (c : UInt8) (R : List UInt8) (w : World) (hat : At s p c) (hs : s.size ≤ 1000) (hR : R.length ≤ 1000) (hv : vis c.toNat = true) (h92 : c ≠ 92) (hin : c ∉ R) :
    Calls Tryz.prog 128 #[.string s, .int .i64 (p : Int), .string (txt R)] w fun e w' => e = .returned (.tuple #[.int .u8 (c.toNat : Int), .int .i64 ((p + 1 : Nat) : Int), .bool true]) ∧ w = w' := by
  obtain ⟨hp, hx⟩ := hat
  have hI := fun w => in_calls R c w hR
  simp only [decide_eq_false hin] at hI
  have HI := hidden hI
  have hV := fun w => seen_calls c.toNat w
  simp only [hv] at hV
  have HV := hidden hV
  have q0 : decide ((s.size : Int) ≤ (p : Int)) = false := decide_eq_false (by omega)
  have q0' : decide (s.size ≤ p) = false := decide_eq_false (by omega)
  have q1 : ((c.toNat : Int) == 92) = false := toNat_ne (d := 92) h92
  have hadd : IntKind.i64.wrap ((p : Int) + 1) = ((p + 1 : Nat) : Int) := by rw [IntKind.wrap_i64]; omega
  generalize (c.toNat : Int) = n at *
  generalize txt R = T at *
  clear hI hV hv hin h92
  go_enter Tryz.func128, Tryz.ntmps128
  go_wp2_with fail
  refine (HV.out _).mono ?_
  rintro e w1 ⟨rfl, rfl⟩
  go_wp2_with fail
  refine (HI.out _).mono ?_
  rintro e w1 ⟨rfl, rfl⟩
  go_wp2
  go_ret3
  exact ⟨rfl, rfl⟩
end Go.Proofs.YthkboclooplpeaaGreatDoor
