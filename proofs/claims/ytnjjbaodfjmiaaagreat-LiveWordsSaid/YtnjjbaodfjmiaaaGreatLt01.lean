/- Base, FaRdC, Typed, Pair, put together. -/
import Derived.Test.YtnjjbaodfjmiaaaGreatRows
import Derived.WalkKit
import Derived.ProofKit
import Derived.RegionTactic
import Derived.ChangeAlike
import Derived.Outline
import Derived.LoopTactic
import Derived.Laws.BytesArg
import Derived.Deep.QuietTactic
import Derived.BigQuiet
import Derived.OpenShut
import Derived.ShutString
import Derived.ChangeOld
import Derived.SizedLaws
import Derived.Orders
import Derived.Handy
import Derived.Laws.ResultCell
import Derived.Laws.Rows
import Derived.Lib.SmallJoins
/- Small words that all of my texts share: facts kept from the walk, equality of texts, results. -/
namespace Go.Proofs.YtnjjbaodfjmiaaaGreat
open Go.RowKit

theorem hidden {p : Prop} (h : p) : Hid p := h

/-- two texts are equal as the walk asks it -/
theorem text_eq {a b : ByteArray} (h : (a.toList == b.toList) = true) : a = b := by
  rw [beq_iff_eq, ByteArray.toList_eq, ByteArray.toList_eq] at h
  exact Go.WideShapes.bytes_inj h
theorem text_ne {a b : ByteArray} (h : (a.toList == b.toList) = false) : a ≠ b := by
  rintro rfl
  simp at h
theorem text_same (a : ByteArray) : (a.toList == a.toList) = true := by simp
theorem text_other {a b : ByteArray} (h : a ≠ b) : (a.toList == b.toList) = false := by
  rw [Bool.eq_false_iff]
  exact fun e => h (text_eq e)

/-- results, as numbers -/
theorem ret_i {k : IntKind} {a b : Int} (h : a = b) : Ending.returned (.int k a) = .returned (.int k b) := by rw [h]
theorem ret_b {a b : Bool} (h : a = b) : Ending.returned (.bool a) = .returned (.bool b) := by rw [h]
theorem ret_s {a b : ByteArray} (h : a = b) : Ending.returned (.string a) = .returned (.string b) := by rw [h]
theorem ret_ib {k : IntKind} {a b : Int} {c d : Bool} (h : a = b) (h' : c = d) : Ending.returned (.tuple #[.int k a, .bool c]) = .returned (.tuple #[.int k b, .bool d]) := by rw [h, h']
theorem ret_ii {k k' : IntKind} {a b c d : Int} (h : a = b) (h' : c = d) : Ending.returned (.tuple #[.int k a, .int k' c]) = .returned (.tuple #[.int k b, .int k' d]) := by rw [h, h']

/-- what was below the first number stays, over a second step whose number is its own world's -/
theorem below_then {B : Nat} {a w w' : World} (h : Below B a w) (hB : B ≤ w.heap.size) (k : Below w.heap.size w w') : Below B a w' := h.trans (k.mono hB)
theorem below_after {a w w' : World} (h : Below a.heap.size a w) (k : Below w.heap.size w w') : Below a.heap.size a w' := below_then h h.size k
theorem below_drawn {B : Nat} {a w : World} (h : Below B a w) (n : Nat) : Below B a (w.drewN n) := ⟨h.os, h.tape, h.output, h.size, h.block⟩

theorem own : ownKnob Tryz.prog.godebug = none := by kernel_rfl
theorem laidOut : laidOutB Tryz.prog = true := by kernel_rfl

theorem wf_i64 {n : Int} (h : (Lit.int .i64 n).wf = true) : -9223372036854775808 ≤ n ∧ n ≤ 9223372036854775807 := by
  simpa [Lit.wf, IntKind.min, IntKind.max, IntKind.signed, IntKind.bits] using h
theorem wf_u8 {n : Int} (h : (Lit.int .u8 n).wf = true) : 0 ≤ n ∧ n ≤ 255 := by
  simpa [Lit.wf, IntKind.min, IntKind.max, IntKind.signed, IntKind.bits] using h

section
open Go.ChangeShapes Go.WideShapes Go.ChangeAt
theorem cell_lt {w : World} {b o : Nat} {v : Value} (h : w.cell? ⟨b, o, none⟩ = some v) : b < w.heap.size := by
  rcases Nat.lt_or_ge b w.heap.size with hlt | hge
  · exact hlt
  · unfold World.cell? at h
    rw [Array.getElem?_eq_none hge] at h
    cases h
/-- a slice of numbers that reads as a list, below block B -/
def Ints (k : IntKind) (w : World) (B : Nat) (a : Option Addr) (len : Nat) (xs : List Int) : Prop :=
  xs.length = len ∧ (0 < len → ∃ b off, a = some ⟨b, off, none⟩ ∧ b < B ∧ ∀ i, i < len → w.cell? ⟨b, off + i, none⟩ = some (.int k (xs.getD i 0)))
theorem ints_below {k : IntKind} {w w' : World} {B : Nat} {a : Option Addr} {len : Nat} {xs : List Int} (h : Ints k w B a len xs) (hb : Below B w w') : Ints k w' w'.heap.size a len xs := by
  refine ⟨h.1, fun hp => ?_⟩
  obtain ⟨b, off, e, hB, hc⟩ := h.2 hp
  have e' : ∀ i, i < len → w'.cell? ⟨b, off + i, none⟩ = some (.int k (xs.getD i 0)) := fun i hi => (hb.cell (p := ⟨b, off + i, none⟩) hB).trans (hc i hi)
  exact ⟨b, off, e, cell_lt (e' 0 hp), e'⟩
def Fits (k : IntKind) (xs : List Int) : Prop := ∀ i, i < xs.length → (Lit.int k (xs.getD i 0)).wf = true
theorem open_slice_ints {H : Type} {enc : TypeId × Value → H} {k : IntKind} {t e : TypeId} {W : World} {a : Option Addr} {len cap : Nat} {d : DataW H} {p : List MemPlace}
    (ht : Tryz.prog.underlying t = some (.slice e)) (he : Tryz.prog.underlying e = some (.int k)) (hc : Tryz.prog.cellsOf e = 1)
    (h : DataW.Trod enc Tryz.prog W 0 (fun _ => true) true t (.slice a len cap) d p) : ∃ zs, (len ≤ cap ∧ cap ≤ maxLen ∧ Fits k zs ∧ Ints k W W.heap.size a len zs) ∧ (cap = 0 ∨ ∃ es sp, d = .slice es sp ∧ es.length + sp.length = cap) := by
  obtain ⟨fuel, hf⟩ := h
  rcases open_ints ht he hc hf with ⟨hcs, _⟩ | ⟨x, l, c, zs, hcs, _, hl, hm, hz, hx, hcell, hwz⟩
  · simp [Value.cells] at hcs
    obtain ⟨rfl, rfl, rfl⟩ := hcs
    exact ⟨[], ⟨Nat.le_refl _, Nat.zero_le _, fun i hi => absurd hi (by simp), rfl, fun h => absurd h (by omega)⟩, .inl rfl⟩
  · simp [Value.cells] at hcs
    obtain ⟨rfl, rfl, rfl⟩ := hcs
    have hz' : zs.length = cap := by simpa using hz
    have hget : ∀ i, i < len → (zs.take len).getD i 0 = zs.getD i 0 := fun i hi => by
      simp [List.getD_eq_getElem?_getD, hi]
    simp only [Prod.mk.injEq] at hx
    refine ⟨zs.take len, ⟨hl, hm, fun i hi => ?_, by simp; omega, fun hp => ?_⟩, .inr ⟨_, _, hx.1, by simp [lits]; omega⟩⟩
    · have hi' : i < len := by simp at hi; omega
      rw [hget i hi']
      refine hwz _ ?_
      rw [List.getD_eq_getElem?_getD, List.getElem?_eq_getElem (by omega)]
      exact List.getElem_mem _
    · obtain ⟨b, off, spot⟩ := x
      have h0 := hcell 0 (by omega)
      have hspot : spot = none := by simpa [Addr.add] using World.cell?_spot h0
      subst hspot
      rw [Addr.add_lit] at h0
      refine ⟨b, off, rfl, cell_lt h0, fun i hi => ?_⟩
      have := hcell i (by omega)
      rw [Addr.add_lit] at this
      rw [hget i hi]
      exact this

/-- what came in reads as it did, over all of the parameters -/
theorem all_read {H : Type} {enc : TypeId × Value → H} {W W' : World} (hb : Below W.heap.size W W') : ∀ {ts : List TypeId} {vs : List Value} {ds : List (DataW H)} {ps : List MemPlace},
    (∀ t ∈ ts, Tryz.prog.readableRec t = true ∧ t < Tryz.prog.types.size) → DataW.TrodAll enc Tryz.prog W 0 (fun _ => true) true ts vs ds ps → (∀ x ∈ ps, x.block < W.heap.size) →
    DataW.TrodAll enc Tryz.prog W' 0 (fun b => decide (b < W.heap.size)) true ts vs ds ps
  | [], vs, ds, ps, _, h, _ => by
    obtain ⟨rfl, rfl, rfl⟩ := trodAll_nil h
    exact trodAll_mk0
  | t :: ts, vs, ds, ps, hr, h, hlt => by
    obtain ⟨v, vs', d, ds', p, q, rfl, rfl, rfl, h0, h1⟩ := trodAll_cons h
    exact trodAll_cons_mk (Below.trod laidOut (hr t (List.mem_cons_self ..)).1 (hr t (List.mem_cons_self ..)).2 h0 hb (fun x hx => hlt x (List.mem_append_left _ hx)))
      (all_read hb (fun t' ht' => hr t' (List.mem_cons_of_mem _ ht')) h1 (fun x hx => hlt x (List.mem_append_right _ hx)))

theorem read_len {H : Type} {enc : TypeId × Value → H} {W : World} {b : Nat} {sp : Nat → Bool} {hd : Bool} : ∀ {ts : List TypeId} {vs : List Value} {ds : List (DataW H)} {ps : List MemPlace},
    DataW.TrodAll enc Tryz.prog W b sp hd ts vs ds ps → ds.length = ts.length
  | [], vs, ds, ps, h => by
    obtain ⟨rfl, rfl, rfl⟩ := trodAll_nil h
    rfl
  | t :: ts, vs, ds, ps, h => by
    obtain ⟨v, vs', d, ds', p, q, rfl, rfl, rfl, h0, h1⟩ := trodAll_cons h
    simp [read_len h1]

/-- THE LAST STEP OF EVERY LAW: true came back, and nothing that was there has turned -/
theorem ends_true {H : Type} {enc : TypeId × Value → H} {f : Func} {s : ChangeSpec} {W W' : World} {args : Array Value} {ds gs : List (DataW H)} {before : List MemPlace}
    (hW : DataW.Whole enc Tryz.prog f.params.toList s.vars false W args.toList ds gs before) (hv : s.vars = []) (hres : f.resultTypes = #[4])
    (hfn : ∀ xs : List (DataW H), xs.length = f.params.toList.length → s.fn H xs = { results := [.lit (.bool true)], args := xs })
    (hread : (f.params.toList.all fun t => Tryz.prog.readableRec t && decide (t < Tryz.prog.types.size)) = true) (hb : Below W.heap.size W W') :
    s.post enc Tryz.prog f false true false false W args (.bool true) W' := by
  have hW' := hW
  obtain ⟨p, q, hA, hV, rfl, hfz, hnd⟩ := hW
  have hlt : ∀ x ∈ p ++ q, x.block < W.heap.size := fun x hx => hW'.lt x hx
  have hread' : ∀ t ∈ f.params.toList, Tryz.prog.readableRec t = true ∧ t < Tryz.prog.types.size := fun t ht => by
    have := List.all_eq_true.1 hread t ht
    simpa using this
  have hlen := read_len hA
  rw [hv] at hV
  obtain ⟨rfl, rfl⟩ := trodVars_none hV
  have e := hfn (ds ++ []) (by simpa using hlen)
  refine ⟨ds, [], _, [], p, [], hW', ?_, ?_, ?_, hb.frame _, fun h => by cases h⟩
  · rw [e, hres]
    exact trodAll_mk1 (shut_bool Tryz.underlying4 _)
  · rw [e, List.append_nil]
    exact all_read hb hread' hA (fun x hx => hlt x (List.mem_append_left _ hx))
  · rw [e, hv]
    rfl
end
end Go.Proofs.YtnjjbaodfjmiaaaGreat

/- The reference's reader: a byte that stands for itself. -/
namespace Go.Proofs.YtnjjbaodfjmiaaaGreat
open Go.RowKit

def txt (l : List UInt8) : ByteArray := ⟨l.toArray⟩
theorem txt_list (s : ByteArray) : txt s.data.toList = s := rfl
theorem list_txt (l : List UInt8) : (txt l).data.toList = l := rfl
theorem txt_size (l : List UInt8) : (txt l).size = l.length := rfl
def vis (n : Nat) : Bool := decide (32 < n) && decide (n ≤ 126)
theorem toNat_ne {c d : UInt8} (h : c ≠ d) : ((c.toNat : Int) == (d.toNat : Int)) = false := by
  rw [Bool.eq_false_iff]
  intro e
  rw [beq_iff_eq] at e
  exact h (UInt8.toNat_inj.1 (by omega))
theorem drop_at {s : ByteArray} {k : Nat} {c : UInt8} {r : List UInt8} (h : s.data.toList.drop k = c :: r) : (∃ hp : k < s.size, s[k]'hp = c) ∧ s.data.toList.drop (k + 1) = r ∧ r.length + k + 1 = s.size := by
  have hl : k < s.data.toList.length := by
    rcases Nat.lt_or_ge k s.data.toList.length with g | g
    · exact g
    · rw [List.drop_eq_nil_of_le g] at h
      cases h
  have hs : s.data.toList.length = s.size := by simp
  rw [List.drop_eq_getElem_cons hl] at h
  obtain ⟨h1, h2⟩ := List.cons.inj h
  refine ⟨⟨by omega, ?_⟩, h2, ?_⟩
  · rw [← h1]
    rfl
  · rw [← h2, List.length_drop]
    omega
theorem drop_nil {s : ByteArray} {k : Nat} (h : s.data.toList.drop k = []) : s.size ≤ k := by
  have := List.drop_eq_nil_iff.1 h
  simpa using this
/-- the byte at a place, as a number -/
theorem num_at {s : ByteArray} {k : Nat} {c : UInt8} (h : ∃ hp : k < s.size, s[k]'hp = c) : ∃ hp : k < s.size, ((s[k]'hp).toNat : Int) = (c.toNat : Int) := by
  obtain ⟨hp, e⟩ := h
  exact ⟨hp, by rw [e]⟩

set_option maxRecDepth 100000 in
theorem seen_calls (n : Nat) (w : World) : Calls Tryz.prog 125 #[.int .u8 n] w fun e w' => e = .returned (.bool (vis n)) ∧ w = w' := by
  have hv : vis n = (decide (32 < n) && decide (n ≤ 126)) := rfl
  have HV := hidden hv
  clear hv
  by_cases h1 : 32 < n
  · have d1 : decide ((33 : Int) ≤ n) = true := decide_eq_true (by omega)
    rw [decide_eq_true h1, Bool.true_and] at HV
    have d2 : decide ((n : Int) ≤ 126) = decide (n ≤ 126) := by simp; omega
    generalize decide (n ≤ 126) = c at *
    go_enter Tryz.func125, Tryz.ntmps125
    go_wp2
    go_ret
    exact ⟨ret_b HV.out.symm, rfl⟩
  · have d1 : decide ((33 : Int) ≤ n) = false := decide_eq_false (by omega)
    rw [decide_eq_false h1, Bool.false_and] at HV
    go_enter Tryz.func125, Tryz.ntmps125
    go_wp2
    go_ret
    exact ⟨ret_b HV.out.symm, rfl⟩
set_option maxHeartbeats 2000000 in
set_option maxRecDepth 100000 in
theorem in_calls (R : List UInt8) (c : UInt8) (w : World) (hR : R.length ≤ 1000) : Calls Tryz.prog 103 #[.string (txt R), .int .u8 (c.toNat : Int)] w fun e w' => e = .returned (.bool (decide (c ∈ R))) ∧ w = w' := by
  obtain ⟨s, hs⟩ : ∃ s, s = txt R := ⟨_, rfl⟩
  have hL : s.data.toList = R := by rw [hs]; rfl
  have hsz : s.size ≤ 1000 := by rw [hs, txt_size]; exact hR
  have HRes := hidden (fun (b : Bool) (h : (c ∈ R) ↔ b = true) => (show decide (c ∈ R) = b by cases b <;> simp_all))
  rw [← hs]
  have hne : ∀ d : UInt8, d ≠ c → (((d.toNat : Int)) == (c.toNat : Int)) = false := fun d h => toNat_ne h
  have HNE := hidden hne
  have HL := hidden hL
  obtain ⟨n, hn⟩ : ∃ n : Int, n = (c.toNat : Int) := ⟨_, rfl⟩
  rw [← hn] at HNE ⊢
  have HN := hidden hn
  clear hs hL hR hne hn
  go_enter Tryz.func103, Tryz.ntmps103
  go_wp2
  go_loop [5] (fun i => ∃ k : Nat, k ≤ s.size ∧ i = .int .i64 k ∧ Hid ((c ∈ R) ↔ c ∈ R.drop k)) (fun i => s.size - (RowKit.intOf i).toNat)
  case atStart => exact ⟨0, by omega, rfl, hidden Iff.rfl⟩
  case round =>
    obtain ⟨k, hk, rfl, hm⟩ := hrel
    match hd : R.drop k with
    | [] =>
      rw [← HL.out] at hd
      have h0 := drop_nil hd
      have q0 : decide ((k : Int) < s.size) = false := decide_eq_false (by omega)
      have HF := hidden (HRes.out false (by rw [hm.out, ← HL.out, hd]; simp))
      clear hm hd
      go_wp2
      go_ret
      exact ⟨ret_b HF.out.symm, rfl⟩
    | d :: t =>
      have hd2 := hd
      rw [← HL.out] at hd2
      obtain ⟨h1, h2, h3⟩ := drop_at hd2
      obtain ⟨hp, hx⟩ := num_at h1
      have q0 : decide ((k : Int) < s.size) = true := decide_eq_true (by omega)
      have hadd : IntKind.i64.wrap ((k : Int) + 1) = (k : Int) + 1 := by rw [IntKind.wrap_i64]; omega
      by_cases hdc : d = c
      · have HF := hidden (HRes.out true (by rw [hm.out, hd, hdc]; simp))
        have q1 : ((d.toNat : Int) == n) = true := by rw [hdc, HN.out]; simp
        generalize (d.toNat : Int) = m at *
        clear hm hd hd2 h1 h2 h3 hdc
        go_wp2
        go_ret
        exact ⟨ret_b HF.out.symm, rfl⟩
      · have HM := hidden (show (c ∈ R) ↔ c ∈ R.drop (k + 1) by
          rw [hm.out, hd, ← HL.out, h2]
          simp [Ne.symm hdc])
        have q1 := HNE.out d hdc
        generalize (d.toNat : Int) = m at *
        clear hm hd hd2 h1 h2 hdc
        go_wp2
        go_round
        case rel => exact ⟨k + 1, by omega, by go_num, HM⟩
        case measure => simp [RowKit.intOf]; omega
/-- the byte of a text at a place -/
def At (s : ByteArray) (p : Nat) (c : UInt8) : Prop := ∃ hp : p < s.size, ((s[p]'hp).toNat : Int) = (c.toNat : Int)
theorem byte_ne {c d : UInt8} (h : c ≠ d) : ((c.toNat : Int) == (d.toNat : Int)) = false := toNat_ne h
set_option maxRecDepth 100000 in
theorem rchar_at (s : ByteArray) (p : Nat) (c : UInt8) (R : List UInt8) (w : World) (hat : At s p c) (hs : s.size ≤ 1000) (hR : R.length ≤ 1000) (hv : vis c.toNat = true) (h92 : c ≠ 92) (hin : c ∉ R) :
    Calls Tryz.prog 119 #[.string s, .int .i64 (p : Int), .string (txt R)] w fun e w' => e = .returned (.tuple #[.int .u8 (c.toNat : Int), .int .i64 ((p + 1 : Nat) : Int), .bool true]) ∧ w = w' := by
  obtain ⟨hp, hx⟩ := hat
  have hI := fun w => in_calls R c w hR
  simp only [decide_eq_false hin] at hI
  have HI := hidden hI
  have hV := fun w => seen_calls c.toNat w
  simp only [hv] at hV
  have HV := hidden hV
  have q0 : decide ((s.size : Int) ≤ (p : Int)) = false := decide_eq_false (by omega)
  have q0' : decide (s.size ≤ p) = false := decide_eq_false (by omega)
  have q1 : ((c.toNat : Int) == 92) = false := toNat_ne (d := 92) h92
  have hadd : IntKind.i64.wrap ((p : Int) + 1) = ((p + 1 : Nat) : Int) := by rw [IntKind.wrap_i64]; omega
  generalize (c.toNat : Int) = n at *
  generalize txt R = T at *
  clear hI hV hv hin h92
  go_enter Tryz.func119, Tryz.ntmps119
  go_wp2_with fail
  refine (HV.out _).mono ?_
  rintro e w1 ⟨rfl, rfl⟩
  go_wp2_with fail
  refine (HI.out _).mono ?_
  rintro e w1 ⟨rfl, rfl⟩
  go_wp2
  go_ret3
  exact ⟨rfl, rfl⟩
end Go.Proofs.YtnjjbaodfjmiaaaGreat

/- A region that draws its order, met operation by operation: what each operation leaves is said once, of whatever world and frame, and the orders need not be gone through. -/
namespace Go.Proofs.YtnjjbaodfjmiaaaGreat
open Go.RowKit

section
variable {P : Program} {ops : Array Oper} {Q : Exit → Act → World → Prop} {T : Nat → Value → World → Prop} {W : World → Prop} {a0 : Act}

/-- what is known of a frame that may stand in the midst of the region: the slots that the region does not write are as they were -/
structure Still (ops : Array Oper) (a0 a : Act) : Prop where
  size : a.tmps.size = a0.tmps.size
  defers : a.defers = a0.defers
  slot : ∀ d, (ops.all fun o => o.dst != some d) = true → a.tmps.getD d undef = a0.tmps.getD d undef
/-- the operations that o waits for have left what they leave -/
def Ahead (ops : Array Oper) (T : Nat → Value → World → Prop) (o : Oper) (a : Act) (w : World) : Prop :=
  ∀ e ∈ o.after, Region.binds .any e = true → ∀ d, (ops[e.on]?).bind (·.dst) = some d → T e.on (a.tmps.getD d undef) w
/-- what an operation leaves -/
def Leaves (T : Nat → Value → World → Prop) (W : World → Prop) (j : Nat) (o : Oper) (a : Act) (w : World) (a' : Act) (w' : World) : Prop :=
  ∃ v, a' = a.put o.dst v ∧ (o.dst ≠ none → T j v w') ∧ W w' ∧ Below w.heap.size w w'

structure Mid (ops : Array Oper) (T : Nat → Value → World → Prop) (W : World → Prop) (a0 : Act) (listed : Array Bool) (a : Act) (w : World) : Prop where
  still : Still ops a0 a
  done : ∀ j d, listed.getD j true = true → (ops[j]?).bind (·.dst) = some d → T j (a.tmps.getD d undef) w
  world : W w

/-- the edges lead to what stands ahead, no two operations write one slot, and all slots are there -/
def wellOrdered (ops : Array Oper) (n : Nat) : Bool :=
  (List.range ops.size).all fun j => match ops[j]? with
    | none => true
    | some o => (o.after.all fun e => decide (e.on < j)) && (match o.dst with
      | none => true
      | some d => decide (d < n) && (List.range ops.size).all fun i => i == j || (ops[i]?).bind (·.dst) != some d)

theorem getD_set (L : Array Bool) (i j : Nat) : (L.setIfInBounds i true).getD j true = if i = j then true else L.getD j true := by
  simp only [Array.getD_eq_getD_getElem?, Array.getElem?_setIfInBounds]
  split
  · subst_vars
    split <;> simp
  · rfl
def missing (ops : Array Oper) (listed : Array Bool) : Nat := (List.range ops.size).countP fun i => !listed.getD i true
theorem missing_set {listed : Array Bool} {i : Nat} (hi : i < ops.size) (h : listed.getD i true = false) : missing ops (listed.setIfInBounds i true) + 1 ≤ missing ops listed := by
  unfold missing
  have key : ∀ n, i < n → (List.range n).countP (fun k => !(listed.setIfInBounds i true).getD k true) + 1 ≤ (List.range n).countP (fun k => !listed.getD k true) := by
    have le : ∀ n, (List.range n).countP (fun k => !(listed.setIfInBounds i true).getD k true) ≤ (List.range n).countP (fun k => !listed.getD k true) := fun n =>
      List.countP_mono_left fun k _ hk => by
        rw [getD_set] at hk
        split at hk
        · simp at hk
        · exact hk
    intro n
    induction n with
    | zero => intro h; omega
    | succ n ih =>
      intro hn
      rw [List.range_succ, List.countP_append, List.countP_append]
      by_cases e : i = n
      · subst e
        have := le i
        have e1 : List.countP (fun k => !(listed.setIfInBounds i true).getD k true) [i] = 0 := by simp
        have e2 : List.countP (fun k => !listed.getD k true) [i] = 1 := by rw [List.countP_singleton, h]; rfl
        omega
      · have := ih (by omega)
        have e1 : List.countP (fun k => !(listed.setIfInBounds i true).getD k true) [n] = List.countP (fun k => !listed.getD k true) [n] := by
          rw [List.countP_singleton, List.countP_singleton, getD_set, if_neg e]
        omega
  exact key ops.size hi
theorem ready_of_missing {listed : Array Bool} (hw : wellOrdered ops a0.tmps.size = true) : ∀ n, n ≤ ops.size → Region.ready .any ops listed = [] → ∀ j, j < n → listed.getD j true = true := by
  intro n
  induction n with
  | zero => intro _ _ j hj; omega
  | succ n ih =>
    intro hn hr j hj
    have ih := ih (by omega) hr
    by_cases e : j = n
    · subst e
      by_cases hl : listed.getD j true = true
      · exact hl
      · exfalso
        have : j ∈ Region.ready .any ops listed := by
          unfold Region.ready
          refine List.mem_filter.2 ⟨List.mem_range.2 (by omega), ?_⟩
          have ho := Array.getElem?_eq_getElem (xs := ops) (i := j) (by omega)
          have hl' : listed.getD j true = false := by simpa using hl
          rw [hl', ho]
          simp only [Bool.not_false, Bool.true_and, Option.map_some, Option.getD_some]
          rw [Array.all_eq_true_iff_forall_mem]
          intro ed hed
          have hwj := List.all_eq_true.1 hw j (List.mem_range.2 (by omega))
          rw [ho] at hwj
          simp only [Bool.and_eq_true] at hwj
          have hlt := of_decide_eq_true (Array.all_eq_true_iff_forall_mem.1 hwj.1 ed hed)
          have h1 := ih ed.on hlt
          have : listed.getD ed.on false = true := by
            rcases Nat.lt_or_ge ed.on listed.size with h2 | h2
            · simp only [Array.getD_eq_getD_getElem?, Array.getElem?_eq_getElem h2, Option.getD_some] at h1 ⊢
              exact h1
            · have h3 : listed.getD j true = true := by simp [Array.getD_eq_getD_getElem?, Array.getElem?_eq_none (show listed.size ≤ j by omega)]
              rw [h3] at hl'
              cases hl'
          rw [this]
          simp
        rw [hr] at this
        cases this
    · exact ih j (by omega)

theorem typed_sound (hw : wellOrdered ops a0.tmps.size = true)
    (hT : ∀ j v w w', T j v w → Below w.heap.size w w' → T j v w')
    (step : ∀ j o, ops[j]? = some o → ∀ a w, Still ops a0 a → Ahead ops T o a w → W w → wpOp P ops Q j (Leaves T W j o a w) a w)
    (fin : ∀ a w, Still ops a0 a → (∀ j d, (ops[j]?).bind (·.dst) = some d → T j (a.tmps.getD d undef) w) → W w → Q .normal a w) :
    ∀ (fuel : Nat) (listed : Array Bool) (a : Act) (w : World), missing ops listed ≤ fuel → listed.size = ops.size → Mid ops T W a0 listed a w → wpAny P .any ops Q fuel listed a w := by
  have finish : ∀ (listed : Array Bool) (a : Act) (w : World), listed.size = ops.size → Mid ops T W a0 listed a w → Region.ready .any ops listed = [] → Q .normal a w := fun listed a w hsz hm hr => by
    have hall := ready_of_missing hw ops.size (Nat.le_refl _) hr
    refine fin a w hm.still (fun j d hd => hm.done j d ?_ hd) hm.world
    rcases Nat.lt_or_ge j ops.size with h | h
    · exact hall j h
    · rw [Array.getElem?_eq_none h] at hd
      cases hd
  intro fuel
  induction fuel with
  | zero =>
    intro listed a w hmis hsz hm
    have hr : Region.ready .any ops listed = [] := by
      rw [Region.ready, List.filter_eq_nil_iff]
      intro i hi
      have h0 : missing ops listed = 0 := by omega
      unfold missing at h0
      rw [List.countP_eq_zero] at h0
      have := h0 i hi
      simp only [Bool.not_eq_true, Bool.not_eq_false'] at this
      rw [this]
      simp
    exact ⟨hr, finish listed a w hsz hm hr⟩
  | succ fuel ih =>
    intro listed a w hmis hsz hm
    refine ⟨finish listed a w hsz hm, fun i hi => ?_⟩
    unfold Region.ready at hi
    obtain ⟨hr1, hr2⟩ := List.mem_filter.1 hi
    have hin : i < ops.size := List.mem_range.1 hr1
    have ho := Array.getElem?_eq_getElem (xs := ops) (i := i) hin
    rw [ho] at hr2
    simp only [Option.map_some, Option.getD_some, Bool.and_eq_true, Bool.not_eq_true'] at hr2
    have hun : listed.getD i true = false := by simpa using hr2.1
    have hahead : Ahead ops T ops[i] a w := fun e he hb d hd => by
      have h1 := Array.all_eq_true_iff_forall_mem.1 hr2.2 e he
      rw [hb] at h1
      simp only [Bool.not_true, Bool.false_or] at h1
      refine hm.done e.on d ?_ hd
      rcases Nat.lt_or_ge e.on listed.size with h2 | h2
      · simp only [Array.getD_eq_getD_getElem?, Array.getElem?_eq_getElem h2, Option.getD_some] at h1 ⊢
        exact h1
      · simp [Array.getD_eq_getD_getElem?, Array.getElem?_eq_none h2]
    refine wpOp_mono (fun a' w' h => ?_) (step i ops[i] ho a w hm.still hahead hm.world)
    obtain ⟨v, rfl, hv, hW', hb⟩ := h
    have hwi := List.all_eq_true.1 hw i (List.mem_range.2 hin)
    rw [ho] at hwi
    simp only [Bool.and_eq_true] at hwi
    refine ih (listed.setIfInBounds i true) _ w' (by have := missing_set (ops := ops) hin hun; omega) (by simpa using hsz) ⟨⟨?_, ?_, ?_⟩, ?_, hW'⟩
    · rw [← hm.still.size]
      cases ops[i].dst <;> simp [Act.put]
    · rw [← hm.still.defers]
      cases ops[i].dst <;> rfl
    · intro d hd
      rw [← hm.still.slot d hd]
      have hne := Array.all_eq_true_iff_forall_mem.1 hd ops[i] (Array.getElem_mem hin)
      cases hx : ops[i].dst with
      | none => rfl
      | some x =>
        rw [hx] at hne
        have : x ≠ d := by simpa using hne
        simp [Act.put, Array.getD_eq_getD_getElem?, Array.getElem?_setIfInBounds_ne this]
    · intro j d hl hd
      rw [getD_set] at hl
      by_cases e : i = j
      · subst e
        rw [ho] at hd
        have hd : ops[i].dst = some d := hd
        have hlt : d < a.tmps.size := by
          rw [hd] at hwi
          simp only [Bool.and_eq_true] at hwi
          have := of_decide_eq_true hwi.2.1
          rw [hm.still.size]
          exact this
        have e2 : (a.put ops[i].dst v).tmps.getD d undef = v := by
          rw [hd]
          simp [Act.put, Array.getD_eq_getD_getElem?, hlt]
        rw [e2]
        exact hv (by rw [hd]; simp)
      · rw [if_neg e] at hl
        have h1 := hT j _ w w' (hm.done j d hl hd) hb
        have e2 : (a.put ops[i].dst v).tmps.getD d undef = a.tmps.getD d undef := by
          cases hx : ops[i].dst with
          | none => rfl
          | some x =>
            rw [hx] at hwi
            simp only [Bool.and_eq_true] at hwi
            have hj : j < ops.size := by
              rcases Nat.lt_or_ge j ops.size with h | h
              · exact h
              · rw [Array.getElem?_eq_none h] at hd
                cases hd
            have h2 := List.all_eq_true.1 hwi.2.2 j (List.mem_range.2 hj)
            rw [hd] at h2
            have : x ≠ d := by
              rintro rfl
              simp at h2
              exact e h2.symm
            simp [Act.put, Array.getD_eq_getD_getElem?, Array.getElem?_setIfInBounds_ne this]
        rw [e2]
        exact h1

/-- THE LAW -/
theorem wp_region_typed {id : Nat} {w : World} (T : Nat → Value → World → Prop) (W : World → Prop) (hm : P.follows .mixedOrders = true) (hw : wellOrdered ops a0.tmps.size = true)
    (hT : ∀ j v w w', T j v w → Below w.heap.size w w' → T j v w') (h0 : W w.drew)
    (step : ∀ j o, ops[j]? = some o → ∀ a w, Still ops a0 a → Ahead ops T o a w → W w → wpOp P ops Q j (Leaves T W j o a w) a w)
    (fin : ∀ a w, Still ops a0 a → (∀ j d, (ops[j]?).bind (·.dst) = some d → T j (a.tmps.getD d undef) w) → W w → Q .normal a w) :
    (Code.region id ops true).wp P Q a0 w := by
  refine wp_region_any hm (typed_sound hw hT step fin ops.size _ a0 w.drew ?_ (by simp) ⟨⟨rfl, rfl, fun _ _ => rfl⟩, fun j d hl hd => ?_, h0⟩)
  · unfold missing
    exact Nat.le_trans List.countP_le_length (by simp)
  · exfalso
    rcases Nat.lt_or_ge j ops.size with h | h
    · simp [Array.getD_eq_getD_getElem?, h] at hl
    · rw [Array.getElem?_eq_none h] at hd
      cases hd

/-! ### the same, with each operation met by itself: its operands by what is known of them -/
def evalR (ρ : Tmp → Value) : Operand → Value
  | .tmp t => ρ t
  | .const v => v
  | .global g => .pointer (some ⟨g, 0, none⟩)
  | .func f => .func (.func f) #[] #[]
theorem evalR_tmp (ρ : Tmp → Value) (t : Tmp) : evalR ρ (.tmp t) = ρ t := rfl
theorem evalR_const (ρ : Tmp → Value) (v : Value) : evalR ρ (.const v) = v := rfl
theorem evalR_global (ρ : Tmp → Value) (g : Nat) : evalR ρ (.global g) = .pointer (some ⟨g, 0, none⟩) := rfl
theorem evalR_func (ρ : Tmp → Value) (f : FuncId) : evalR ρ (.func f) = .func (.func f) #[] #[] := rfl
/-- the operation runs, and what comes of it meets Kv -/
def Does (P : Program) (o : Oper) (ρ : Tmp → Value) (w : World) (Kv : Value → World → Prop) : Prop :=
  match (execOp (evalR ρ) o).run P w with
  | .ok (.value v) w' => Kv v w'
  | .ok .skip w' => Kv undef w'
  | .ok (.enter f args) w' => Calls P f args w' fun e w'' => ∃ v, e = .returned v ∧ Kv v w''
  | _ => False
/-- which operation of the region writes a slot -/
def srcOf (ops : Array Oper) (t : Tmp) : Option Nat := (List.range ops.size).find? fun i => (ops[i]?).bind (·.dst) == some t
/-- what is known of a slot that an operation reads -/
def Fact (ops : Array Oper) (a0 : Act) (T : Nat → Value → World → Prop) (t : Tmp) (v : Value) (w : World) : Prop :=
  match srcOf ops t with
  | none => v = a0.tmps.getD t undef
  | some i => T i v w
def reads (o : Oper) : List Tmp := o.op.operands.toList.filterMap fun | .tmp t => some t | _ => none
def waits (o : Oper) (i : Nat) : Bool := o.after.any fun e => e.on == i && Region.binds .any e
/-- every slot that is read, and every guard, is of an operation that is waited for -/
def covered (ops : Array Oper) : Bool := ops.all fun o =>
  ((reads o).all fun t => match srcOf ops t with
    | none => true
    | some i => waits o i) && (match o.guard with
    | none => true
    | some (g, _) => waits o g && ((ops[g]?).bind (·.dst)).isSome)
/-- one operation, of whatever world and operands -/
def StepOk (P : Program) (ops : Array Oper) (a0 : Act) (T : Nat → Value → World → Prop) (W : World → Prop) (j : Nat) (o : Oper) : Prop :=
  ∀ ρ w, (∀ t ∈ reads o, Fact ops a0 T t (ρ t) w) → W w → Does P o ρ w fun v w' => T j v w' ∧ W w' ∧ Below w.heap.size w w'
def Steps (p : Nat → Oper → Prop) : Nat → List Oper → Prop
  | _, [] => True
  | j, o :: r => p j o ∧ Steps p (j + 1) r
theorem Steps.at {p : Nat → Oper → Prop} : ∀ {l : List Oper} {k : Nat}, Steps p k l → ∀ j o, l[j]? = some o → p (k + j) o
  | [], _, _, j, o, h => by simp at h
  | x :: r, k, hs, 0, o, h => by
    simp at h
    subst h
    exact hs.1
  | x :: r, k, hs, j + 1, o, h => by
    have := hs.2.at j o (by simpa using h)
    rwa [Nat.add_assoc, Nat.add_comm 1 j] at this

theorem does_wpOp {j : Nat} {o : Oper} {ρ : Tmp → Value} {a : Act} {w : World} (hi : ops[j]? = some o) (hsel : ∀ cs b, o.op ≠ .select cs b) (hr : ∀ t ∈ reads o, a.tmps.getD t undef = ρ t)
    (hg : Region.wanted o (yielded ops a.tmps) = true) (h : Does P o ρ w fun v w' => T j v w' ∧ W w' ∧ Below w.heap.size w w') : wpOp P ops Q j (Leaves T W j o a w) a w := by
  have he : execOp a.eval o = execOp (evalR ρ) o := execOp_congr o hsel fun x hx => by
    cases x with
    | tmp t => exact hr t (List.mem_filterMap.2 ⟨.tmp t, by simpa using hx, rfl⟩)
    | _ => rfl
  unfold wpOp
  simp only [hi, hg, if_true]
  refine .inl ?_
  unfold Oper.wp Does at *
  rw [he]
  generalize (execOp (evalR ρ) o).run P w = r at *
  cases r with
  | ok n w' =>
    cases n <;> simp only [Oper.upon] at h ⊢
    case value v => exact ⟨v, rfl, fun _ => h.1, h.2.1, h.2.2⟩
    case skip => exact ⟨undef, rfl, fun _ => h.1, h.2.1, h.2.2⟩
    case enter f args =>
      refine Calls.mono h fun e w'' he => ?_
      obtain ⟨v, rfl, h1, h2, h3⟩ := he
      exact ⟨v, rfl, fun _ => h1, h2, h3⟩
  | halt x w' => exact h.elim

/-- THE LAW, operation by operation -/
theorem wp_region_steps {id : Nat} {w : World} (T : Nat → Value → World → Prop) (W : World → Prop) (hm : P.follows .mixedOrders = true) (hw : wellOrdered ops a0.tmps.size = true) (hcov : covered ops = true) (hs : Region.noSelect ops = true)
    (hT : ∀ j v w w', T j v w → Below w.heap.size w w' → T j v w') (h0 : W w.drew)
    (gs : List Nat) (hguard : ops.all (fun o => match o.guard with
      | none => true
      | some (g, b) => b && gs.contains g) = true)
    (htrue : ∀ g ∈ gs, ∀ v w, T g v w → v = .bool true)
    (steps : Steps (StepOk P ops a0 T W) 0 ops.toList)
    (fin : ∀ a w, Still ops a0 a → (∀ j d, (ops[j]?).bind (·.dst) = some d → T j (a.tmps.getD d undef) w) → W w → Q .normal a w) :
    (Code.region id ops true).wp P Q a0 w := by
  refine wp_region_typed T W hm hw hT h0 (fun j o ho a w1 hst ha hW => ?_) fin
  have hc := Array.all_eq_true_iff_forall_mem.1 hcov o (Array.mem_of_getElem? ho)
  simp only [Bool.and_eq_true] at hc
  have wait : ∀ i d, waits o i = true → (ops[i]?).bind (·.dst) = some d → T i (a.tmps.getD d undef) w1 := fun i d hwt hd => by
    unfold waits at hwt
    obtain ⟨e, he, h1⟩ := Array.any_eq_true'.1 hwt
    simp only [Bool.and_eq_true, beq_iff_eq] at h1
    obtain ⟨rfl, h2⟩ := h1
    exact ha e he h2 d hd
  have hst1 := steps.at j o (by simpa using ho)
  rw [Nat.zero_add] at hst1
  refine does_wpOp ho (fun cs b => Region.noSelect_spec hs j o cs b ho) (ρ := fun t => a.tmps.getD t undef) (fun t _ => rfl) ?_ (hst1 _ w1 (fun t ht => ?_) hW)
  · unfold Region.wanted
    cases hgd : o.guard with
    | none => rfl
    | some gb =>
      obtain ⟨g, b⟩ := gb
      have hb := Array.all_eq_true_iff_forall_mem.1 hguard o (Array.mem_of_getElem? ho)
      rw [hgd] at hb
      have hb : (b && gs.contains g) = true := hb
      simp only [Bool.and_eq_true] at hb
      obtain ⟨rfl, hgs⟩ := hb
      have hc2 := hc.2
      rw [hgd] at hc2
      simp only [Bool.and_eq_true] at hc2
      obtain ⟨d, hd⟩ := Option.isSome_iff_exists.1 hc2.2
      have hv := htrue g (by simpa using hgs) _ _ (wait g d hc2.1 hd)
      have : yielded ops a.tmps g = some true := by
        unfold yielded
        rw [hd]
        simp only [Option.bind_some]
        rcases Nat.lt_or_ge d a.tmps.size with h | h
        · simp only [Array.getD_eq_getD_getElem?, Array.getElem?_eq_getElem h, Option.getD_some] at hv
          rw [Array.getElem?_eq_getElem h, hv]
        · simp only [Array.getD_eq_getD_getElem?, Array.getElem?_eq_none h, Option.getD_none] at hv
          cases hv
      show (yielded ops a.tmps g == some true) = true
      rw [this]
      rfl
  · have h1 := List.all_eq_true.1 hc.1 t ht
    unfold Fact
    cases hsrc : srcOf ops t with
    | none =>
      refine hst.slot t ?_
      rw [Array.all_eq_true_iff_forall_mem]
      intro o' ho'
      obtain ⟨i, hi, rfl⟩ := Array.mem_iff_getElem.1 ho'
      unfold srcOf at hsrc
      have := List.find?_eq_none.1 hsrc i (List.mem_range.2 hi)
      rw [Array.getElem?_eq_getElem hi] at this
      simpa using this
    | some i =>
      rw [hsrc] at h1
      refine wait i t h1 ?_
      unfold srcOf at hsrc
      simpa using List.find?_some hsrc

/-! ### what a slot holds, as a list over the region's operations -/
def Is (v0 : Value) : Value → World → Prop := fun v _ => v = v0
def isTrue : Value → World → Prop := Is (.bool true)
def typ (L : List (Value → World → Prop)) (j : Nat) (v : Value) (w : World) : Prop := L.getD j (fun _ _ => True) v w
theorem typ_mono {L : List (Value → World → Prop)} (h : ∀ p ∈ L, ∀ v w w', p v w → Below w.heap.size w w' → p v w') : ∀ j v w w', typ L j v w → Below w.heap.size w w' → typ L j v w' := fun j v w w' h1 h2 => by
  unfold typ at *
  rw [List.getD_eq_getElem?_getD] at *
  cases hl : L[j]? with
  | none => trivial
  | some p =>
    rw [hl] at h1
    exact h p (List.mem_of_getElem? hl) v w w' h1 h2
theorem is_mono (v0 : Value) : ∀ v w w', Is v0 v w → Below w.heap.size w w' → Is v0 v w' := fun _ _ _ h _ => h
end
end Go.Proofs.YtnjjbaodfjmiaaaGreat

/- Blocks of two numbers (structs of two ints), and results that are such structs, with and without a plain result behind them. -/
namespace Go.Proofs.YtnjjbaodfjmiaaaGreat
open Go.RowKit

/-- block B is a struct of two numbers -/
def PairAt (t : TypeId) (w : World) (B : Nat) (a b : Int) : Prop := w.heap[B]? = some (.cells #[.int .i64 a, .int .i64 b] t (0, 0))
theorem PairAt.facts {t : TypeId} {w : World} {B : Nat} {a b : Int} (h : PairAt t w B a b) :
    w.cell? ⟨B, 0, none⟩ = some (.int .i64 a) ∧ w.cell? ⟨B, 1, none⟩ = some (.int .i64 b) ∧ w.frozen? ⟨B, 0, none⟩ = false ∧ w.frozen? ⟨B, 1, none⟩ = false :=
  ⟨cell_of_row w B 0 _ _ _ h, cell_of_row w B 1 _ _ _ h, frozen_of_row w B 0 _ _ h, frozen_of_row w B 1 _ _ h⟩
theorem PairAt.lt {t : TypeId} {w : World} {B : Nat} {a b : Int} (h : PairAt t w B a b) : B < w.heap.size := by
  rcases Nat.lt_or_ge B w.heap.size with hlt | hge
  · exact hlt
  · unfold PairAt at h
    rw [Array.getElem?_eq_none hge] at h
    cases h
theorem PairAt.below {t : TypeId} {w w' : World} {B : Nat} {a b : Int} (h : PairAt t w B a b) (hb : Below w.heap.size w w') : PairAt t w' B a b :=
  (hb.block B h.lt).trans h
theorem PairAt.kept {t : TypeId} {w w' : World} {B n : Nat} {a b : Int} (h : PairAt t w B a b) (hb : Below n w w') (hB : B < n) : PairAt t w' B a b :=
  (hb.block B hB).trans h
theorem PairAt.new (t : TypeId) (w : World) (a b : Int) : PairAt t (w.alloc (.cells #[.int .i64 a, .int .i64 b] t)) w.heap.size a b := heap_alloc_new w _
theorem PairAt.alloc {t : TypeId} {w : World} {B : Nat} {a b : Int} (h : PairAt t w B a b) (o : Obj) : PairAt t (w.alloc o) B a b :=
  (heap_alloc_old w _ h.lt).trans h
theorem PairAt.stored {t : TypeId} {w : World} {B : Nat} {a b : Int} (h : PairAt t w B a b) (a' b' : Int) :
    PairAt t ((w.setCell ⟨B, 0, none⟩ (.int .i64 a')).setCell ⟨B, 1, none⟩ (.int .i64 b')) B a' b' :=
  heap_setCell_same _ B 1 _ _ _ (heap_setCell_same _ B 0 _ _ _ h)
theorem PairAt.other {t : TypeId} {w : World} {B b i : Nat} {x y : Int} (h : PairAt t w B x y) (hne : B ≠ b) (v : Value) : PairAt t (w.setCell ⟨b, i, none⟩ v) B x y := by
  unfold PairAt at h ⊢
  rw [heap_setCell_other _ _ _ _ hne, h]
theorem PairAt.drew {t : TypeId} {w : World} {B : Nat} {a b : Int} (h : PairAt t w B a b) : PairAt t w.drew B a b := h

theorem ret_pair {fn : Func} {R : Ending → World → Prop} {a : Act} {w : World} {B p : Nat} {x y : Int} {t : TypeId} {fs : Array Field} (hf : fn.results = #[.cell p t]) (hp : a.tmps.getD p undef = .pointer (some ⟨B, 0, none⟩))
    (hd : a.defers = []) (hS : PairAt t w B x y) (hu : Tryz.prog.underlying t = some (.struct fs)) (hi : (Tryz.prog.info? t).map (·.size) = some 2)
    (hR : R (.returned (.agg #[.int .i64 x, .int .i64 y])) w) : bodyPost Tryz.prog fn R .ret a w :=
  bodyPost_ret (results_cell_row hf _ w B t _ (0, 0) _ hp hS hu rfl hi) hd hR
theorem ret_pair_tmp {fn : Func} {R : Ending → World → Prop} {a : Act} {w : World} {B p u : Nat} {x y : Int} {t : TypeId} {fs : Array Field} {v : Value} (hf : fn.results = #[.cell p t, .tmp u]) (hp : a.tmps.getD p undef = .pointer (some ⟨B, 0, none⟩))
    (hv : a.tmps.getD u undef = v)
    (hd : a.defers = []) (hS : PairAt t w B x y) (hu : Tryz.prog.underlying t = some (.struct fs)) (hi : (Tryz.prog.info? t).map (·.size) = some 2)
    (hR : R (.returned (.tuple #[.agg #[.int .i64 x, .int .i64 y], v])) w) : bodyPost Tryz.prog fn R .ret a w := by
  refine bodyPost_ret ?_ hd hR
  rw [results_cell_tmp hf, hp]
  simp only [asAddr, Sem.run_pure, Result.andThen]
  rw [run_loadVar_row w B t t _ (0, 0) _ hS hu rfl hi]
  simp only [hv]
theorem PairAt.made {t : TypeId} {w : World} {a b : Int} {B : Nat} (h : B = w.heap.size) : PairAt t (w.alloc (.cells #[.int .i64 a, .int .i64 b] t)) B a b := by
  subst h
  exact PairAt.new t w a b
theorem ret_p {a b c d : Int} (h : a = c) (h' : b = d) : Ending.returned (.agg #[.int .i64 a, .int .i64 b]) = .returned (.agg #[.int .i64 c, .int .i64 d]) := by rw [h, h']
theorem ret_pb {a b c d : Int} {x y : Bool} (h : a = c) (h' : b = d) (h2 : x = y) : Ending.returned (.tuple #[.agg #[.int .i64 a, .int .i64 b], .bool x]) = .returned (.tuple #[.agg #[.int .i64 c, .int .i64 d], .bool y]) := by rw [h, h', h2]
/-- block B is one cell -/
def OneAt (t : TypeId) (w : World) (B : Nat) (v : Value) : Prop := w.heap[B]? = some (.cells #[v] t (0, 0))
theorem OneAt.cell {t : TypeId} {w : World} {B : Nat} {v : Value} (h : OneAt t w B v) : w.cell? ⟨B, 0, none⟩ = some v := cell_of_row w B 0 _ _ _ h
theorem OneAt.frozen {t : TypeId} {w : World} {B : Nat} {v : Value} (h : OneAt t w B v) : w.frozen? ⟨B, 0, none⟩ = false := frozen_of_row w B 0 _ _ h
theorem OneAt.kept {t : TypeId} {w w' : World} {B n : Nat} {v : Value} (h : OneAt t w B v) (hb : Below n w w') (hB : B < n) : OneAt t w' B v := (hb.block B hB).trans h
theorem OneAt.lt {t : TypeId} {w : World} {B : Nat} {v : Value} (h : OneAt t w B v) : B < w.heap.size := by
  rcases Nat.lt_or_ge B w.heap.size with hlt | hge
  · exact hlt
  · unfold OneAt at h
    rw [Array.getElem?_eq_none hge] at h
    cases h
theorem OneAt.made {t : TypeId} {w : World} {v : Value} {B : Nat} (h : B = w.heap.size) : OneAt t (w.alloc (.cells #[v] t)) B v := by
  subst h
  exact heap_alloc_new w _
theorem OneAt.alloc {t : TypeId} {w : World} {B : Nat} {v : Value} (h : OneAt t w B v) (o : Obj) : OneAt t (w.alloc o) B v := (heap_alloc_old w _ h.lt).trans h
theorem OneAt.stored {t : TypeId} {w : World} {B : Nat} {v : Value} (h : OneAt t w B v) (v' : Value) : OneAt t (w.setCell ⟨B, 0, none⟩ v') B v' := heap_setCell_same _ B 0 _ _ _ h
theorem OneAt.other {t : TypeId} {w : World} {B b i : Nat} {v : Value} (h : OneAt t w B v) (hne : B ≠ b) (u : Value) : OneAt t (w.setCell ⟨b, i, none⟩ u) B v := by
  unfold OneAt at h ⊢
  rw [heap_setCell_other _ _ _ _ hne, h]
theorem results_cells2 {fn : Func} {p q : Tmp} {t u : TypeId} (h : fn.results = #[.cell p t, .cell q u]) (tmps : Array Value) (P : Program) (w : World) :
    (results fn tmps).run P w =
      ((asAddr (tmps.getD p undef)).run P w).andThen fun a w₁ => ((loadVar t a).run P w₁).andThen fun v w₂ => ((asAddr (tmps.getD q undef)).run P w₂).andThen fun b w₃ => ((loadVar u b).run P w₃).andThen fun x w₄ => .ok (.tuple #[v, x]) w₄ := by
  simp only [results, h]
  simp [Sem.run_bind, Result.andThen]
theorem below_two {B : Nat} {a w : World} (h : Below B a w) (b : Nat) (hb : B ≤ b) (v0 v1 : Value) :
    Below B a ((w.setCell ⟨b, 0, none⟩ v0).setCell ⟨b, 1, none⟩ v1) := (h.setCell hb _).setCell hb _
end Go.Proofs.YtnjjbaodfjmiaaaGreat
