/- Contract of Key; two lists that have one key are the same. -/
import Derived.Test.YtbnohmbdfcapkaaDoorMaKn
import Derived.Lib.AppendIntMem
import Derived.Lib.ItoaLen
import Derived.Laws.IdiomStrings
namespace Go.Proofs.YtbnohmbdfcapkaaDoor
open Go.RowKit Go.Lib Go.Joins

/-! ### the numerals tell the numbers -/
def rdDec (l : List UInt8) : Nat := l.foldl (fun a c => a * 10 + (c.toNat - 48)) 0
theorem rd_more (l : List UInt8) (c : UInt8) : rdDec (l ++ [c]) = rdDec l * 10 + (c.toNat - 48) := by simp [rdDec]
theorem dig_nat {d : Nat} (h : d < 10) : (UInt8.ofNat (48 + d)).toNat = 48 + d := by simp; omega
theorem rd_dec (u : Nat) : rdDec (decDigits u) = u ∧ ∀ c ∈ decDigits u, 48 ≤ c.toNat ∧ c.toNat ≤ 57 := by
  induction u using Nat.strongRecOn with
  | ind u ih =>
    by_cases h : u < 10
    · rw [decDigits, dif_pos h]
      refine ⟨?_, fun c hc => ?_⟩
      · have := dig_nat h
        simp only [rdDec, List.foldl_cons, List.foldl_nil]
        omega
      · simp only [List.mem_singleton] at hc
        subst hc
        have := dig_nat h
        omega
    · obtain ⟨i1, i2⟩ := ih (u / 10) (by omega)
      rw [decDigits, dif_neg h]
      have hd := dig_nat (d := u % 10) (by omega)
      refine ⟨?_, fun c hc => ?_⟩
      · rw [rd_more, i1, hd]
        omega
      · rcases List.mem_append.1 hc with hc | hc
        · exact i2 c hc
        · simp only [List.mem_singleton] at hc
          subst hc
          omega
theorem dec_ne (u : Nat) : decDigits u ≠ [] := by
  rw [decDigits]
  split <;> simp
theorem itoa_inj {n m : Int} (h : itoa n = itoa m) : n = m := by
  unfold itoa at h
  have no : ∀ (u v : Nat), (45 : UInt8) :: decDigits u ≠ decDigits v := fun u v e => by
    have := (rd_dec v).2 45 (by rw [← e]; simp)
    have e45 : (45 : UInt8).toNat = 45 := rfl
    omega
  split at h
  · split at h
    · have := congrArg rdDec (List.cons.inj h).2
      rw [(rd_dec _).1, (rd_dec _).1] at this
      omega
    · exact absurd h (no _ _)
  · split at h
    · exact absurd h.symm (no _ _)
    · have := congrArg rdDec h
      rw [(rd_dec _).1, (rd_dec _).1] at this
      omega
theorem itoa_comma (n : Int) : (44 : UInt8) ∉ itoa n := fun h => by
  have e44 : (44 : UInt8).toNat = 44 := rfl
  unfold itoa at h
  split at h
  · rcases List.mem_cons.1 h with h | h
    · exact absurd h (by decide)
    · have := (rd_dec _).2 _ h
      omega
  · have := (rd_dec _).2 _ h
    omega
theorem split_at {c : UInt8} : ∀ {a b r s : List UInt8}, c ∉ a → c ∉ b → a ++ c :: r = b ++ c :: s → a = b ∧ r = s
  | [], [], r, s, _, _, h => ⟨rfl, (List.cons.inj h).2⟩
  | [], y :: b, r, s, _, hb, h => absurd (List.cons.inj h).1 (fun e => hb (by rw [e]; simp))
  | x :: a, [], r, s, ha, _, h => absurd (List.cons.inj h).1 (fun e => ha (by rw [← e]; simp))
  | x :: a, y :: b, r, s, ha, hb, h => by
    obtain ⟨e1, e2⟩ := List.cons.inj h
    obtain ⟨i1, i2⟩ := split_at (fun h => ha (List.mem_cons_of_mem _ h)) (fun h => hb (List.mem_cons_of_mem _ h)) e2
    exact ⟨by rw [e1, i1], i2⟩
def keyV (l : List Int) : List UInt8 := l.flatMap fun n => itoa n ++ [44]
theorem key_inj : ∀ {l m : List Int}, keyV l = keyV m → l = m
  | [], [], _ => rfl
  | [], y :: m, h => by simp [keyV] at h
  | x :: l, [], h => by simp [keyV] at h
  | x :: l, y :: m, h => by
    unfold keyV at h
    rw [List.flatMap_cons, List.flatMap_cons, List.append_assoc, List.append_assoc] at h
    obtain ⟨e1, e2⟩ := split_at (itoa_comma x) (itoa_comma y) h
    rw [itoa_inj e1, key_inj e2]
theorem key_len : ∀ {l : List Int}, (∀ x ∈ l, -9223372036854775808 ≤ x ∧ x ≤ 9223372036854775807) → (keyV l).length ≤ 22 * l.length
  | [], _ => by simp [keyV]
  | x :: l, h => by
    have h1 := key_len (l := l) fun y hy => h y (List.mem_cons_of_mem _ hy)
    have h2 := itoa_length_le x (h x (by simp)).1 (h x (by simp)).2
    unfold keyV at *
    rw [List.flatMap_cons, List.length_append, List.length_append, List.length_cons, List.length_cons, List.length_nil]
    omega
theorem key_take (l : List Int) (k : Nat) (h : k < l.length) : keyV (l.take (k + 1)) = (keyV (l.take k) ++ itoa (l.getD k 0)) ++ [44] := by
  unfold keyV
  rw [take_moreZ l k h, List.flatMap_append]
  simp

/-! ### a row of bytes of the call's own -/
def RowB (w : World) (B : Nat) (v : Value) (l : List UInt8) : Prop := w.ownsRow B 5 1 v l.length (byteCells l)
theorem RowB.kept {w w' : World} {B : Nat} {v : Value} {l : List UInt8} (h : RowB w B v l) (hb : Below w.heap.size w w') : RowB w' B v l :=
  World.ownsRow.kept (row := none) h ⟨hb.os, hb.tape, hb.output, hb.size, fun k hk _ => hb.block k hk⟩ (by cases v.ownBlock <;> simp)
theorem RowB.form {w : World} {B : Nat} {v : Value} {l : List UInt8} (h : RowB w B v l) : ∃ a c, v = .slice a l.length c := by
  rcases h.2 with ⟨rfl, h0⟩ | ⟨g, cap, cur, rfl, _⟩
  · exact ⟨_, _, by rw [h0]⟩
  · exact ⟨_, _, rfl⟩
theorem RowB.text {w : World} {B : Nat} {v : Value} {l : List UInt8} (h : RowB w B v l) : (convert 32 9 v).run Tryd.prog w = .ok (.string ⟨l.toArray⟩) w := by
  rcases h.2 with ⟨rfl, h0⟩ | ⟨g, cap, cur, rfl, _⟩
  · rw [run_convert_bytes_nil w 32 5 Tryd.underlying32 Tryd.underlying5 _ _ 9 Tryd.underlying9]
    rw [List.eq_nil_of_length_eq_zero h0]
    rfl
  · refine run_convert_bytes_back w _ _ _ _ _ l Tryd.underlying32 Tryd.underlying5 Tryd.underlying9 fun j hj => ?_
    exact World.ownsRow.cells (g := g) h rfl j _ (by simp [byteCells, hj])
theorem infoB : (Tryd.prog.info? 5).map (fun i => (i.zero, i.size, i.bytes)) = some (some (.int .u8 0), 1, 1) := by kernel_rfl
/-- an append of a comma -/
theorem app_comma {w : World} {ops : Array Oper} {rest : List Oper} {o : Oper} {a : Act} {Q : Exit → Act → World → Prop} (hgd : o.guard = none) (s x : Operand)
    (ho : o.op = .call { callee := .builtin .append, args := #[s, x], argTypes := #[32, 32] }) {base xb n : Nat} {v : Value} {l : List UInt8}
    (hs : a.eval s = v) (hown : RowB w base v l) (hx : a.eval x = .slice (some ⟨xb, 0, none⟩) 1 1) (hxb : w.heap[xb]? = some (.cells #[.int .u8 44] 5 (0, 0))) (hn : l.length = n) (hn2 : n ≤ 100000) (hb0 : base ≤ w.heap.size)
    (h : ∀ g' c' w', RowB w' base (.slice (some ⟨g', 0, none⟩) (n + 1) c') (l ++ [44]) → Below base w w' → wpList Tryd.prog ops Q rest (a.put o.dst (.slice (some ⟨g', 0, none⟩) (n + 1) c')) w') : wpList Tryd.prog ops Q (o :: rest) a w := by
  subst hn
  obtain ⟨i0, hi, hz0, hz1, hz2⟩ := info_parts infoB
  refine wpList_append_own w hgd s x 32 ho base 5 i0 _ 1 1 Tryd.underlying32 hi hz0 hz1 hz2 rfl (by decide) _ l.length (byteCells l) hs hown ⟨xb, 0, none⟩ 1 1 [.int .u8 44] hx rfl (fun j x hj => ?_) (fun x hx => by simp at hx; subst hx; rfl) (by unfold maxLen; omega) (by omega) hb0 fun v' w' h3 h4 _ => ?_
  · match j, hj with
    | 0, hj =>
      simp only [List.getElem?_cons_zero, Option.some.injEq] at hj
      subst hj
      rw [Addr.add_lit, cell_of_row w xb _ _ _ _ hxb]
      rfl
  · have hb : Below base w w' := (Below.refl base w).grown h4 hb0 fun k e => (hown.lt k e).1
    rcases ownsRow_forms h3 with ⟨_, h0⟩ | ⟨g, c, rfl⟩
    · omega
    · exact h g c w' (by unfold RowB; simpa [byteCells] using h3) hb
/-- the table of the powers of ten is laid -/
def Pow (w : World) : Prop := TabIs Tryd.prog w "internal/strconv.uint64pow10" .u64 pow10Tab
set_option maxHeartbeats 4000000 in
set_option maxRecDepth 100000 in
theorem key_calls (w : World) (v : Value) (l : List Int) (h : RdZ w.heap.size w v l) (hl : l.length ≤ 1000) (hf : ∀ x ∈ l, -9223372036854775808 ≤ x ∧ x ≤ 9223372036854775807) (hp : Pow w) :
    Calls Tryd.prog 11 #[v] w fun e w' => e = .returned (.string ⟨(keyV l).toArray⟩) ∧ Below w.heap.size w w' := by
  obtain ⟨a, cap, rfl, h1, h2, _, h4⟩ := h
  have H4 := hidden h4
  have HKT := hidden (fun k hk => key_take l k hk)
  have HKL := hidden (fun k => (show (keyV (l.take k)).length ≤ 22 * k from by
    have h1 := key_len (l := l.take k) fun x hx => hf x (List.mem_of_mem_take hx)
    rw [List.length_take] at h1
    omega))
  have HF := hidden (fun k (hk : k < l.length) => hf (l.getD k 0) (by rw [List.getD_eq_getElem?_getD, List.getElem?_eq_getElem hk]; exact List.getElem_mem _))
  have HE := hidden (show keyV (l.take l.length) = keyV l by rw [List.take_of_length_le (Nat.le_refl _)])
  have HTB := hidden (tabBelow_of_tabIs hp)
  obtain ⟨m, hmm⟩ : ∃ m, m = l.length := ⟨_, rfl⟩
  rw [← hmm] at H4 HKT HF HE h1 hl ⊢
  unfold maxLen at h2
  clear h4 hmm hf hp
  go_enter Tryd.func11, Tryd.ntmps11
  go_wp2
  go_loopw [3, 5, 8] (fun kv _ i wr => ∃ (k : Nat) (o : Value), k ≤ m ∧ i = .int .i64 k ∧ o = kv ∧ RowB wr w.heap.size o (keyV (l.take k)) ∧ Below w.heap.size w wr) (fun _ _ i _ => m - (intOf i).toNat)
  case atStart => exact ⟨0, _, by omega, rfl, rfl, World.ownsRow_nil _ _ _ _, Below.refl _ _⟩
  case round =>
    obtain ⟨k, o, hk, rfl, rfl, hr, hb⟩ := hrel
    have HR := hidden hr
    have HB := hidden hb
    obtain ⟨av, cv, rfl⟩ := hr.form
    clear hr hb
    by_cases hlt : k < m
    · obtain ⟨b, off, rfl, hbB, hc⟩ := H4.out (by omega)
      have c1 := (HB.out.cell (p := ⟨b, off + k, none⟩) hbB).trans (hc k hlt)
      have HT := hidden (HKT.out k hlt)
      have hlen := HKL.out k
      have hx := HF.out k hlt
      have HA := hidden (Go.Proofs.Tryd.strconv_AppendInt_10 w.heap.size (keyV (l.take k)).length (l.getD k 0) hx.1 hx.2 _ _ wr HR.out HB.out.size (by omega) (HTB.out.on HB.out))
      have HIL := hidden (itoa_length_le (l.getD k 0) hx.1 hx.2)
      generalize l.getD k 0 = x at *
      generalize keyV (l.take k) = K at *
      obtain ⟨q, hq⟩ : ∃ q, q = K.length := ⟨_, rfl⟩
      have HQ := hidden hq
      rw [← hq] at HA hlen ⊢
      have hq2 : q ≤ 22000 := by omega
      clear hc hx hlen hq
      go_wp2_with fail
      refine HA.out.mono ?_
      rintro e w2 ⟨v2, rfl, ho2, hb2, _⟩
      have HR2 := hidden (show RowB w2 w.heap.size v2 (K ++ itoa x) from by
        unfold RowB
        rw [List.length_append, ← HQ.out, show byteCells (K ++ itoa x) = byteCells K ++ byteCells (itoa x) from by simp [byteCells]]
        exact ho2)
      have HB2 := hidden (HB.out.trans hb2)
      obtain ⟨a2, c2, rfl⟩ := HR2.out.form
      obtain ⟨q2, hqq⟩ : ∃ q2, q2 = (K ++ itoa x).length := ⟨_, rfl⟩
      have hq3 : q2 ≤ 30000 := by
        have h1 := HIL.out
        have h2 := HQ.out
        rw [hqq, List.length_append]
        omega
      have HQ2 := hidden hqq.symm
      rw [← hqq] at HR2 ⊢
      clear ho2 hb2 hqq
      go_wp2_with (at_builtin; refine app_comma rfl _ _ rfl rfl (HR2.out.kept ((Below.refl w2.heap.size w2).alloc (Nat.le_refl _) (.cells #[.int .u8 44] 5))) rfl (heap_alloc_new w2 _) HQ2.out (by omega) (Nat.le_trans HB2.out.size (by simp)) ?_; intro g' c' w4 hr4 hb4)
      have HR4 := hidden (show RowB w4 w.heap.size (.slice (some ⟨g', 0, none⟩) (q2 + 1) c') (keyV (l.take (k + 1))) from by rw [HT.out]; exact hr4)
      have HB4 := hidden ((HB2.out.alloc HB2.out.size _).trans hb4)
      clear hr4 hb4
      go_wp2
      go_roundw
      case rel => exact ⟨k + 1, _, by omega, by go_num, rfl, HR4.out, HB4.out⟩
      case measure => simp [intOf]; omega
    · obtain rfl : k = m := by omega
      have hcv := HR.out.text
      rw [show (keyV (l.take k)).toArray = (keyV l).toArray from by rw [HE.out]] at hcv
      obtain ⟨q, hq⟩ : ∃ q, q = (keyV (l.take k)).length := ⟨_, rfl⟩
      rw [← hq] at hcv ⊢
      clear hq
      go_wp2
      go_ret
      exact ⟨rfl, HB.out⟩
end Go.Proofs.YtbnohmbdfcapkaaDoor
