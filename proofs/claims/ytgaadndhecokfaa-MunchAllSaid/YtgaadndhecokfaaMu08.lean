/- TxtRefB, SpFree, SpNum, SpOps, put together. -/
import Derived.Test.YtgaadndhecokfaaMu07
import Derived.Test.YtgaadndhecokfaaMu06
import Derived.Test.YtgaadndhecokfaaMu01
import Derived.Handy
/- The reference's Begin, at the steps of a tree. -/
namespace Go.Proofs.Ytgaadndhecokfaa
open Go.RowKit Go.Lib Go.Joins

/-- block b has the steps L from place off on -/
def Lay (b off : Nat) (L : List Stp) (W : World) : Prop := b < W.heap.size ∧ ∀ i, i < L.length → RxAt W b (off + i * 5) (L.getD i default)
theorem Lay.below {b off : Nat} {L : List Stp} {W W' : World} (h : Lay b off L W) (hb : Below W.heap.size W W') : Lay b off L W' := ⟨Nat.lt_of_lt_of_le h.1 hb.size, fun i hi => (h.2 i hi).kept (hb.block b h.1)⟩
theorem getD_end (x u z : List Stp) (s : Stp) : (x ++ (u ++ [s]) ++ z).getD (x.length + u.length) default = s := by
  rw [List.getD_eq_getElem?_getD, List.getElem?_append_left (by simp), List.getElem?_append_right (by omega), List.getElem?_append_right (by omega)]
  simp
theorem ops_last : ∀ e : Ex, ∃ u s, ops e = u ++ [s] ∧ s.k = e.kind
  | .set f => ⟨[], sStp f, rfl, rfl⟩
  | .emp => ⟨[], kStp 2, rfl, rfl⟩
  | .cat a b => ⟨ops a ++ ops b, kStp 3, rfl, rfl⟩
  | .alt a b => ⟨ops a ++ ops b, kStp 4, rfl, rfl⟩
  | .un k a => ⟨ops a, kStp k, rfl, rfl⟩
theorem ops_pos (e : Ex) : 1 ≤ (ops e).length := by
  obtain ⟨u, s, h, _⟩ := ops_last e
  rw [h]
  simp
theorem at_end {L x z : List Stp} {e : Ex} {i : Nat} (hL : L = x ++ ops e ++ z) (hi : i + 1 = x.length + (ops e).length) : i < L.length ∧ (L.getD i default).k = e.kind := by
  obtain ⟨u, s, h, hs⟩ := ops_last e
  rw [h] at hL hi
  simp only [List.length_append, List.length_cons, List.length_nil] at hi
  have hi' : i = x.length + u.length := by omega
  subst hi'
  refine ⟨by rw [hL]; simp only [List.length_append, List.length_cons, List.length_nil]; omega, ?_⟩
  rw [hL, getD_end, hs]
section
variable {b off cap : Nat} {L : List Stp} {w : World}
theorem Lay.kind (h : Lay b off L w) {i : Nat} (hi : i < L.length) {k : Int} (hk : (L.getD i default).k = k) : w.cell? ⟨b, off + i * 5, none⟩ = some (.int .i64 k) := by
  rw [← hk]
  exact (h.2 i hi).1
set_option maxRecDepth 100000 in
theorem begin0 (h : Lay b off L w) {i : Nat} (hi : i < L.length) {k : Int} (hk : (L.getD i default).k = k) (ho : kOps k = 0) (_ : L.length ≤ 1000) :
    Calls Try.prog 74 #[.slice (some ⟨b, off, none⟩) L.length cap, .int .i64 i] w fun e w' => e = .returned (.int .i64 i) ∧ w = w' := by
  have c0 := h.kind hi hk
  have hK := rof_calls k
  rw [ho] at hK
  have HK := hidden hK
  generalize L.length = n at *
  have q0 : decide ((i : Int) < 0) = false := decide_eq_false (by omega)
  have q1 : decide ((n : Int) ≤ i) = false := decide_eq_false (by omega)
  have q2 : decide (n ≤ i) = false := decide_eq_false (by omega)
  clear h hk hK ho
  go_enter Try.func74, Try.ntmps74
  go_wp2_with fail
  refine (HK.out _).mono ?_
  rintro e w1 ⟨rfl, rfl⟩
  go_wp2
  refine wp_loop_rounds 1 ?_
  rw [rounds_succ]
  go_wp2
  go_ret
  exact ⟨rfl, rfl⟩
set_option maxRecDepth 100000 in
theorem begin1 (h : Lay b off L w) {i j y : Nat} (hi : i < L.length) {k : Int} (hk : (L.getD i default).k = k) (ho : kOps k = 1) (hl : L.length ≤ 1000) (hj : j + 1 = i) (hy : y ≤ 1000)
    (H1 : Calls Try.prog 74 #[.slice (some ⟨b, off, none⟩) L.length cap, .int .i64 j] w fun e w' => e = .returned (.int .i64 y) ∧ w = w') :
    Calls Try.prog 74 #[.slice (some ⟨b, off, none⟩) L.length cap, .int .i64 i] w fun e w' => e = .returned (.int .i64 y) ∧ w = w' := by
  have c0 := h.kind hi hk
  have hK := rof_calls k
  rw [ho] at hK
  have HK := hidden hK
  have HC := hidden H1
  generalize L.length = n at *
  have q0 : decide ((i : Int) < 0) = false := decide_eq_false (by omega)
  have q1 : decide ((n : Int) ≤ i) = false := decide_eq_false (by omega)
  have q2 : decide (n ≤ i) = false := decide_eq_false (by omega)
  have q3 : decide ((y : Int) < 0) = false := decide_eq_false (by omega)
  have hsub : IntKind.i64.wrap ((i : Int) - 1) = j := by rw [IntKind.wrap_i64]; omega
  clear h hk hK ho H1 hj
  go_enter Try.func74, Try.ntmps74
  go_wp2_with fail
  refine (HK.out _).mono ?_
  rintro e w1 ⟨rfl, rfl⟩
  go_wp2
  refine wp_loop_rounds 2 ?_
  rw [rounds_succ]
  go_wp2_with fail
  refine HC.out.mono ?_
  rintro e w1 ⟨rfl, rfl⟩
  go_wp2
  rw [rounds_succ]
  go_wp2
  go_ret
  exact ⟨rfl, rfl⟩
set_option maxRecDepth 100000 in
theorem begin2 (h : Lay b off L w) {i j y j2 y2 : Nat} (hi : i < L.length) {k : Int} (hk : (L.getD i default).k = k) (ho : kOps k = 2) (hl : L.length ≤ 1000) (hj : j + 1 = i) (hy : y ≤ 1000) (hj2 : j2 + 1 = y) (hy2 : y2 ≤ 1000)
    (H1 : Calls Try.prog 74 #[.slice (some ⟨b, off, none⟩) L.length cap, .int .i64 j] w fun e w' => e = .returned (.int .i64 y) ∧ w = w')
    (H2 : Calls Try.prog 74 #[.slice (some ⟨b, off, none⟩) L.length cap, .int .i64 j2] w fun e w' => e = .returned (.int .i64 y2) ∧ w = w') :
    Calls Try.prog 74 #[.slice (some ⟨b, off, none⟩) L.length cap, .int .i64 i] w fun e w' => e = .returned (.int .i64 y2) ∧ w = w' := by
  have c0 := h.kind hi hk
  have hK := rof_calls k
  rw [ho] at hK
  have HK := hidden hK
  have HC := hidden H1
  have HD := hidden H2
  generalize L.length = n at *
  have q0 : decide ((i : Int) < 0) = false := decide_eq_false (by omega)
  have q1 : decide ((n : Int) ≤ i) = false := decide_eq_false (by omega)
  have q2 : decide (n ≤ i) = false := decide_eq_false (by omega)
  have q3 : decide ((y : Int) < 0) = false := decide_eq_false (by omega)
  have q4 : decide ((y2 : Int) < 0) = false := decide_eq_false (by omega)
  have hsub : IntKind.i64.wrap ((i : Int) - 1) = j := by rw [IntKind.wrap_i64]; omega
  have hsub2 : IntKind.i64.wrap ((y : Int) - 1) = j2 := by rw [IntKind.wrap_i64]; omega
  clear h hk hK ho H1 H2 hj hj2
  go_enter Try.func74, Try.ntmps74
  go_wp2_with fail
  refine (HK.out _).mono ?_
  rintro e w1 ⟨rfl, rfl⟩
  go_wp2
  refine wp_loop_rounds 3 ?_
  rw [rounds_succ]
  go_wp2_with fail
  refine HC.out.mono ?_
  rintro e w1 ⟨rfl, rfl⟩
  go_wp2
  rw [rounds_succ]
  go_wp2_with fail
  refine HD.out.mono ?_
  rintro e w1 ⟨rfl, rfl⟩
  go_wp2
  rw [rounds_succ]
  go_wp2
  go_ret
  exact ⟨rfl, rfl⟩
theorem rbegin_calls (h : Lay b off L w) (hl : L.length ≤ 1000) : ∀ (e : Ex), e.ok → ∀ (x z : List Stp) (i : Nat), L = x ++ ops e ++ z → i + 1 = x.length + (ops e).length →
    Calls Try.prog 74 #[.slice (some ⟨b, off, none⟩) L.length cap, .int .i64 i] w fun e' w' => e' = .returned (.int .i64 x.length) ∧ w = w'
  | .set f, _, x, z, i, hL, hi => by
    obtain ⟨h1, h2⟩ := at_end hL hi
    have hx : i = x.length := by simp [ops] at hi; omega
    subst hx
    exact begin0 h h1 h2 rfl hl
  | .emp, _, x, z, i, hL, hi => by
    obtain ⟨h1, h2⟩ := at_end hL hi
    have hx : i = x.length := by simp [ops] at hi; omega
    subst hx
    exact begin0 h h1 h2 rfl hl
  | .un k a, ⟨hk, ha⟩, x, z, i, hL, hi => by
    obtain ⟨h1, h2⟩ := at_end hL hi
    have hp := ops_pos a
    have hlen : (ops (.un k a)).length = (ops a).length + 1 := by simp [ops]
    rw [hlen] at hi
    have hxl : x.length ≤ 1000 := by rw [hL] at hl; simp only [List.length_append] at hl; omega
    exact begin1 (j := i - 1) h h1 h2 (by rcases hk with rfl | rfl | rfl <;> rfl) hl (by omega) hxl (rbegin_calls h hl a ha x ([kStp k] ++ z) (i - 1) (by rw [hL]; simp [ops]) (by omega))
  | .cat a c, ⟨ha, hc⟩, x, z, i, hL, hi => by
    obtain ⟨h1, h2⟩ := at_end hL hi
    have hp := ops_pos a
    have hp2 := ops_pos c
    have hlen : (ops (.cat a c)).length = (ops a).length + (ops c).length + 1 := by simp [ops]; omega
    rw [hlen] at hi
    have hxl : x.length + (ops a).length ≤ 1000 := by rw [hL] at hl; simp only [List.length_append] at hl; omega
    have H1 := rbegin_calls h hl c hc (x ++ ops a) ([kStp 3] ++ z) (i - 1) (by rw [hL]; simp [ops]) (by simp only [List.length_append]; omega)
    rw [List.length_append] at H1
    exact begin2 (j := i - 1) (j2 := x.length + (ops a).length - 1) h h1 h2 rfl hl (by omega) hxl (by omega) (by omega) H1 (rbegin_calls h hl a ha x (ops c ++ [kStp 3] ++ z) _ (by rw [hL]; simp [ops]) (by omega))
  | .alt a c, ⟨ha, hc⟩, x, z, i, hL, hi => by
    obtain ⟨h1, h2⟩ := at_end hL hi
    have hp := ops_pos a
    have hp2 := ops_pos c
    have hlen : (ops (.alt a c)).length = (ops a).length + (ops c).length + 1 := by simp [ops]; omega
    rw [hlen] at hi
    have hxl : x.length + (ops a).length ≤ 1000 := by rw [hL] at hl; simp only [List.length_append] at hl; omega
    have H1 := rbegin_calls h hl c hc (x ++ ops a) ([kStp 4] ++ z) (i - 1) (by rw [hL]; simp [ops]) (by simp only [List.length_append]; omega)
    rw [List.length_append] at H1
    exact begin2 (j := i - 1) (j2 := x.length + (ops a).length - 1) h h1 h2 rfl hl (by omega) hxl (by omega) (by omega) H1 (rbegin_calls h hl a ha x (ops c ++ [kStp 4] ++ z) _ (by rw [hL]; simp [ops]) (by omega))
end
end Go.Proofs.Ytgaadndhecokfaa

/- Contract of the reference's free, at the steps of a tree. -/
namespace Go.Proofs.Ytgaadndhecokfaa
open Go.RowKit Go.Lib Go.Joins
section
variable {b off cap : Nat} {L : List Stp}
def Tell (b off cap : Nat) (L : List Stp) (F : FuncId) (i : Nat) (v : Value) : Prop := ∀ w, Lay b off L w → Calls Try.prog F #[.slice (some ⟨b, off, none⟩) L.length cap, .int .i64 i] w fun e w' => e = .returned v ∧ w = w'
def Begins (b off cap : Nat) (L : List Stp) (j y : Nat) : Prop := ∀ w, Lay b off L w → Calls Try.prog 74 #[.slice (some ⟨b, off, none⟩) L.length cap, .int .i64 j] w fun e w' => e = .returned (.int .i64 y) ∧ w = w'
theorem begins {e : Ex} (he : e.ok) (hl : L.length ≤ 1000) {x z : List Stp} {i : Nat} (hL : L = x ++ ops e ++ z) (hi : i + 1 = x.length + (ops e).length) : Begins b off cap L i x.length := fun _ hw => rbegin_calls hw hl e he x z i hL hi
/-- where the parts of two stand -/
theorem two_parts {k : Int} {a c : Ex} {e : Ex} (he : ops e = ops a ++ ops c ++ [kStp k]) {x z : List Stp} {i : Nat} (hL : L = x ++ ops e ++ z) (hi : i + 1 = x.length + (ops e).length) :
    (L = (x ++ ops a) ++ ops c ++ ([kStp k] ++ z) ∧ i - 1 + 1 = (x ++ ops a).length + (ops c).length) ∧ (L = x ++ ops a ++ (ops c ++ [kStp k] ++ z) ∧ x.length + (ops a).length - 1 + 1 = x.length + (ops a).length) ∧ i - 1 + 1 = i ∧ x.length + (ops a).length - 1 + 1 = (x ++ ops a).length ∧ (x ++ ops a).length ≤ L.length := by
  have hp := ops_pos a
  have hp2 := ops_pos c
  rw [he] at hL hi
  simp only [List.length_append, List.length_cons, List.length_nil] at hi
  refine ⟨⟨by rw [hL]; simp, ?_⟩, ⟨by rw [hL]; simp, by omega⟩, by omega, ?_, ?_⟩
  · simp only [List.length_append]; omega
  · simp only [List.length_append]; omega
  · rw [hL]; simp only [List.length_append]; omega
set_option maxRecDepth 100000 in
theorem rfrFlat {i : Nat} {k : Int} {r : Bool} (hi : i < L.length) (hk : (L.getD i default).k = k) (hk2 : k = 1 ∧ r = false ∨ (k = 2 ∨ k = 5 ∨ k = 7) ∧ r = true) : Tell b off cap L 75 i (.bool r) := by
  intro w h
  have c0 := h.kind hi hk
  generalize L.length = n at *
  clear h hk
  rcases hk2 with ⟨rfl, rfl⟩ | ⟨rfl | rfl | rfl, rfl⟩
  all_goals
    go_enter Try.func75, Try.ntmps75
    go_wp2
    go_ret
    exact ⟨rfl, rfl⟩
set_option maxRecDepth 100000 in
theorem rfrUn6 {i j : Nat} {x : Bool} (hi : i < L.length) (hk : (L.getD i default).k = 6) (hj : j + 1 = i) (hl : L.length ≤ 1000) (HA : Tell b off cap L 75 j (.bool x)) : Tell b off cap L 75 i (.bool x) := by
  intro w h
  have c0 := h.kind hi hk
  have HAA := hidden (HA w h)
  have hsub : IntKind.i64.wrap ((i : Int) - 1) = j := by rw [IntKind.wrap_i64]; omega
  generalize L.length = n at *
  clear h hk hj HA
  go_enter Try.func75, Try.ntmps75
  go_wp2_with fail
  refine HAA.out.mono ?_
  rintro e w1 ⟨rfl, rfl⟩
  go_wp2
  go_ret
  exact ⟨rfl, rfl⟩
set_option maxHeartbeats 2000000 in
set_option maxRecDepth 100000 in
theorem rfrTwo {i j y l : Nat} {k : Int} {x z r : Bool} (hi : i < L.length) (hk : (L.getD i default).k = k) (hk2 : k = 3 ∧ r = (x && z) ∨ k = 4 ∧ r = (x || z)) (hj : j + 1 = i) (hy : l + 1 = y) (hl : L.length ≤ 1000) (hyl : y ≤ 1000)
    (HA : Tell b off cap L 75 l (.bool x)) (HC : Tell b off cap L 75 j (.bool z)) (HB : Begins b off cap L j y) :
    Tell b off cap L 75 i (.bool r) := by
  intro w h
  have c0 := h.kind hi hk
  have HAA := hidden (HA w h)
  have HCC := hidden (HC w h)
  have HBB := hidden (HB w h)
  have hsub : IntKind.i64.wrap ((i : Int) - 1) = j := by rw [IntKind.wrap_i64]; omega
  have hsub2 : IntKind.i64.wrap ((y : Int) - 1) = l := by rw [IntKind.wrap_i64]; omega
  generalize L.length = n at *
  clear h hk hj HA HC HB hy
  rcases hk2 with ⟨rfl, rfl⟩ | ⟨rfl, rfl⟩
  all_goals cases x
  all_goals
    go_enter Try.func75, Try.ntmps75
    go_wp2_with fail
    refine HCC.out.mono ?_
    rintro e w1 ⟨rfl, rfl⟩
    go_wp2_with fail
    refine HBB.out.mono ?_
    rintro e w1 ⟨rfl, rfl⟩
    go_wp2_with fail
    refine HAA.out.mono ?_
    rintro e w1 ⟨rfl, rfl⟩
    go_wp2
    go_ret
    exact ⟨by simp, rfl⟩
theorem rfree (hl : L.length ≤ 1000) : ∀ (e : Ex), e.ok → ∀ (x z : List Stp) (i : Nat), L = x ++ ops e ++ z → i + 1 = x.length + (ops e).length → Tell b off cap L 75 i (.bool (nul e))
  | .set f, _, x, z, i, hL, hi => rfrFlat (at_end hL hi).1 (at_end hL hi).2 (.inl ⟨rfl, rfl⟩)
  | .emp, _, x, z, i, hL, hi => rfrFlat (at_end hL hi).1 (at_end hL hi).2 (.inr ⟨.inl rfl, rfl⟩)
  | .un k a, ⟨hk, ha⟩, x, z, i, hL, hi => by
    obtain ⟨h1, h2⟩ := at_end hL hi
    have hp := ops_pos a
    have hlen : (ops (.un k a)).length = (ops a).length + 1 := by simp [ops]
    rcases hk with rfl | rfl | rfl
    · exact rfrFlat h1 h2 (.inr ⟨.inr (.inl rfl), rfl⟩)
    · exact rfrUn6 (j := i - 1) h1 h2 (by omega) hl (rfree hl a ha x ([kStp 6] ++ z) (i - 1) (by rw [hL]; simp [ops]) (by omega))
    · exact rfrFlat h1 h2 (.inr ⟨.inr (.inr rfl), rfl⟩)
  | .cat a c, ⟨ha, hc⟩, x, z, i, hL, hi => by
    obtain ⟨h1, h2⟩ := at_end hL hi
    obtain ⟨⟨p1, p2⟩, ⟨p3, p4⟩, p5, p6, p7⟩ := two_parts (k := 3) (a := a) (c := c) rfl hL hi
    exact rfrTwo (b := b) (off := off) (cap := cap) h1 h2 (.inl ⟨rfl, rfl⟩) p5 p6 hl (by omega) (rfree hl a ha _ _ _ p3 p4) (rfree hl c hc _ _ _ p1 p2) (begins hc hl p1 p2)
  | .alt a c, ⟨ha, hc⟩, x, z, i, hL, hi => by
    obtain ⟨h1, h2⟩ := at_end hL hi
    obtain ⟨⟨p1, p2⟩, ⟨p3, p4⟩, p5, p6, p7⟩ := two_parts (k := 4) (a := a) (c := c) rfl hL hi
    exact rfrTwo (b := b) (off := off) (cap := cap) h1 h2 (.inr ⟨rfl, rfl⟩) p5 p6 hl (by omega) (rfree hl a ha _ _ _ p3 p4) (rfree hl c hc _ _ _ p1 p2) (begins hc hl p1 p2)
end
end Go.Proofs.Ytgaadndhecokfaa

/- Contract of the reference's number: how many spots stand before a place. -/
namespace Go.Proofs.Ytgaadndhecokfaa
open Go.RowKit Go.Lib Go.Joins

/-- how many of the first k steps are sets -/
def cnt (L : List Stp) (k : Nat) : Nat := (sets (L.take k)).length
theorem cnt_take {L : List Stp} {k : Nat} (h : k < L.length) : cnt L (k + 1) = if (L.getD k default).k = 1 then cnt L k + 1 else cnt L k := by
  unfold cnt
  rw [sets_take h]
  by_cases hk : (L.getD k default).k = 1
  · rw [if_pos hk, if_pos hk, List.length_append]; rfl
  · rw [if_neg hk, if_neg hk]
theorem cnt_le (L : List Stp) (k : Nat) : cnt L k ≤ k := sets_len L k
theorem cnt_zero (L : List Stp) : cnt L 0 = 0 := by unfold cnt sets; rfl
attribute [local irreducible] cnt
set_option maxHeartbeats 4000000 in
set_option maxRecDepth 100000 in
theorem number_calls {C : Nat → Prop} {v : Value} {L : List Stp} {w : World} {i : Nat} (h : SlX C w v L) (hi : i ≤ L.length) (hl : L.length ≤ 512) : Calls Try.prog 73 #[v, .int .i64 i] w fun e w' => e = .returned (.int .i64 (cnt L i)) ∧ w = w' := by
  obtain ⟨a, cap, rfl, hcap, hmax, _, hS⟩ := h
  have HC := hidden (fun (hp : 0 < L.length) => hS.2 hp)
  have HT := hidden (fun k (h : k < L.length) => cnt_take h)
  have HLN := hidden (fun k => cnt_le L k)
  have H0 := hidden (cnt_zero L)
  obtain ⟨n, hn⟩ : ∃ n, n = L.length := ⟨_, rfl⟩
  rw [← hn] at HC HT hcap hl hi ⊢
  unfold maxLen at hmax
  clear hS hn
  go_enter Try.func73, Try.ntmps73
  go_wp2
  go_loopw [5, 6] (fun c j wr => ∃ k : Nat, k ≤ i ∧ c = .int .i64 (cnt L k : Nat) ∧ j = .int .i64 k ∧ w = wr) (fun _ j _ => i - (Go.RowKit.intOf j).toNat)
  case atStart => exact ⟨0, by omega, by rw [H0.out]; rfl, rfl, rfl⟩
  case round =>
    obtain ⟨k, hk, rfl, rfl, rfl⟩ := hrel
    by_cases hlt : k < i
    · obtain ⟨b, off, rfl, hCb, hc⟩ := HC.out (by omega)
      obtain ⟨c0, c1, c2, c3, c4⟩ := hc k (by omega)
      have HTK := hidden (HT.out k (by omega))
      have hle := HLN.out k
      generalize hst : L.getD k default = s at *
      obtain ⟨sk, sa, sb, sc, sd⟩ := s
      dsimp only at *
      have hkn : k < n := by omega
      have hw1 : IntKind.i64.wrap ((cnt L k : Int) + 1) = (cnt L k : Int) + 1 := by rw [IntKind.wrap_i64]; omega
      clear hst hc
      by_cases h1 : sk = 1
      · subst h1
        have HR := hidden (show cnt L (k + 1) = cnt L k + 1 by rw [HTK.out]; rfl)
        clear HTK
        go_wp2
        go_roundw
        case rel => exact ⟨k + 1, by omega, by rw [HR.out]; rfl, by go_num, by trivial⟩
        case measure => simp [Go.RowKit.intOf]; omega
      · have HR := hidden (show cnt L (k + 1) = cnt L k by rw [HTK.out, if_neg h1])
        have hq : (sk == 1) = false := by simpa using h1
        clear HTK
        go_wp2
        go_roundw
        case rel => exact ⟨k + 1, by omega, by rw [HR.out], by go_num, by trivial⟩
        case measure => simp [Go.RowKit.intOf]; omega
    · have e : k = i := by omega
      subst e
      go_wp2
      go_ret
      exact ⟨rfl, rfl⟩
end Go.Proofs.Ytgaadndhecokfaa

/- Contracts of the sets of spots: one, has, with. -/
namespace Go.Proofs.Ytgaadndhecokfaa
open Go.RowKit

def hasS (f : Nat → Bool) (n : Int) : Bool := decide (0 ≤ n) && (decide (n < 256) && f n.toNat)
end Go.Proofs.Ytgaadndhecokfaa
