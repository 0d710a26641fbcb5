/- TxtChar, TxtSet, TxtStand, TxtClass, put together. -/
import Derived.Test.YthiiinbkkjacbaaDoorRt01
import Derived.Test.YthiiinbkkjacbaaDoorRt05
import Derived.Test.YthiiinbkkjacbaaDoorRt04
/- Characters and members of classes as texts, printed and read: bytes as lists. Of no program. -/
namespace Go.Proofs.YthiiinbkkjacbaaDoor

def txt (l : List UInt8) : ByteArray := ⟨l.toArray⟩
theorem txt_list (s : ByteArray) : txt s.data.toList = s := rfl
theorem list_txt (l : List UInt8) : (txt l).data.toList = l := rfl
theorem txt_size (l : List UInt8) : (txt l).size = l.length := rfl
theorem txt_inj {a b : List UInt8} (h : txt a = txt b) : a = b := by
  have := congrArg (fun s : ByteArray => s.data.toList) h
  simpa [list_txt] using this
theorem txt_add (a b : List UInt8) : txt a ++ txt b = txt (a ++ b) := by
  apply ByteArray.ext
  simp [txt, ByteArray.data_append]
theorem txt_extract (s : ByteArray) (a b : Nat) : s.extract a b = txt ((s.data.toList.take b).drop a) := by
  apply ByteArray.ext
  simp only [txt, ByteArray.data_extract]
  apply Array.ext'
  simp [List.drop_take, List.extract_eq_take_drop]

def vis (n : Nat) : Bool := decide (32 < n) && decide (n ≤ 126)
def aln (n : Nat) : Bool := (decide (97 ≤ n) && decide (n ≤ 122)) || ((decide (65 ≤ n) && decide (n ≤ 90)) || (decide (48 ≤ n) && decide (n ≤ 57)))
def RT : List UInt8 := [40, 41, 91, 93, 124, 42, 43, 63, 46, 92]
def RC : List UInt8 := [91, 93, 94, 45, 92]
def hexB (i : Nat) : UInt8 := UInt8.ofNat (hexDigit (i : Int)).toNat
def chr (R : List UInt8) (n : Nat) : List UInt8 :=
  if n = 10 then [92, 110] else if n = 9 then [92, 116] else if n = 13 then [92, 114] else
  if vis n = false then [92, 120, hexB (n / 16), hexB (n % 16)] else if UInt8.ofNat n ∈ R then [92, UInt8.ofNat n] else [UInt8.ofNat n]

def isHex (c : UInt8) : Bool := decide (0 ≤ digOf c)
def rdHex : List UInt8 → Nat × Nat × Bool
  | [] => (0, 0, false)
  | [a] => if isHex a = true then (0, 1, false) else (0, 0, false)
  | a :: b :: _ => if isHex a = true then (if isHex b = true then ((digOf a * 16 + digOf b).toNat, 2, true) else (0, 1, false)) else (0, 0, false)
def rdEsc : List UInt8 → Nat × Nat × Bool
  | [] => (0, 0, false)
  | c :: r => if c = 110 then (10, 1, true) else if c = 116 then (9, 1, true) else if c = 114 then (13, 1, true) else
      if c = 120 then ((rdHex r).1, (rdHex r).2.1 + 1, (rdHex r).2.2) else
      if vis c.toNat = false ∨ aln c.toNat = true then (0, 0, false) else (c.toNat, 1, true)
def rdChar (R : List UInt8) : List UInt8 → Nat × Nat × Bool
  | [] => (0, 0, false)
  | c :: r => if c = 92 then ((rdEsc r).1, (rdEsc r).2.1 + 1, (rdEsc r).2.2) else
      if vis c.toNat = false ∨ c ∈ R then (0, 0, false) else (c.toNat, 1, true)

/-- a list of what does not stand for itself -/
def Res (R : List UInt8) : Prop := (92 : UInt8) ∈ R ∧ ∀ c ∈ R, c ≠ 110 ∧ c ≠ 116 ∧ c ≠ 114 ∧ c ≠ 120 ∧ vis c.toNat = true ∧ aln c.toNat = false
theorem res_T : Res RT := by unfold Res; decide
theorem res_C : Res RC := by unfold Res; decide
theorem toNat_ofNat {n : Nat} (h : n < 256) : (UInt8.ofNat n).toNat = n := by simp; omega
theorem vis_le {n : Nat} (h : vis n = true) : 32 < n ∧ n ≤ 126 := by simpa [vis] using h

theorem chr_read {R : List UInt8} (hR : Res R) {n : Nat} (hn : n < 256) (rest : List UInt8) : rdChar R (chr R n ++ rest) = (n, (chr R n).length, true) := by
  unfold chr
  split
  · subst n; rfl
  split
  · subst n; rfl
  split
  · subst n; rfl
  split
  · have h1 := digOf_hex ⟨n / 16, by omega⟩
    have h2 := digOf_hex ⟨n % 16, by omega⟩
    have e1 : digOf (hexB (n / 16)) = (n / 16 : Nat) := h1
    have e2 : digOf (hexB (n % 16)) = (n % 16 : Nat) := h2
    have g1 : isHex (hexB (n / 16)) = true := by unfold isHex; rw [e1]; simp; omega
    have g2 : isHex (hexB (n % 16)) = true := by unfold isHex; rw [e2]; simp; omega
    simp only [List.cons_append, List.nil_append, rdChar, rdEsc, rdHex, g1, g2, if_true]
    rw [e1, e2]
    simp
    omega
  split
  · rename_i hv hm
    obtain ⟨a, b, c, d, _, g⟩ := hR.2 _ hm
    have e := toNat_ofNat hn
    rw [e] at g
    have hv' : vis n = true := by simpa using hv
    simp only [List.cons_append, List.nil_append, rdChar, rdEsc, a, b, c, d, e, hv', g, if_true, if_false]
    simp
  · rename_i hv hm
    have e := toNat_ofNat hn
    have hv' : vis n = true := by simpa using hv
    have h92 : UInt8.ofNat n ≠ 92 := fun h => hm (h ▸ hR.1)
    simp only [List.cons_append, List.nil_append, rdChar, h92, e, hm, hv', if_false]
    simp
theorem chr_pos (R : List UInt8) (n : Nat) : 1 ≤ (chr R n).length ∧ (chr R n).length ≤ 4 := by
  unfold chr
  split <;> (try split) <;> (try split) <;> (try split) <;> (try split) <;> simp
/-- what a printed byte begins with -/
theorem chr_head (R : List UInt8) (n : Nat) : ∃ h t, chr R n = h :: t ∧ (h = 92 ∨ h ∉ R) := by
  unfold chr
  split
  · exact ⟨_, _, rfl, .inl rfl⟩
  split
  · exact ⟨_, _, rfl, .inl rfl⟩
  split
  · exact ⟨_, _, rfl, .inl rfl⟩
  split
  · exact ⟨_, _, rfl, .inl rfl⟩
  split
  · exact ⟨_, _, rfl, .inl rfl⟩
  · rename_i h
    exact ⟨_, _, rfl, .inr h⟩

theorem chr_short {R : List UInt8} {n : Nat} (hv : vis n = true) : (chr R n).length ≤ 2 := by
  have := vis_le hv
  unfold chr
  rw [if_neg (by omega), if_neg (by omega), if_neg (by omega), if_neg (by simp [hv])]
  split <;> simp
theorem chr_one {R : List UInt8} {c : UInt8} (hv : vis c.toNat = true) (hm : c ∉ R) : (chr R c.toNat).length = 1 := by
  have := vis_le hv
  unfold chr
  rw [if_neg (by omega), if_neg (by omega), if_neg (by omega), if_neg (by simp [hv]), if_neg (by simpa using hm)]
  rfl
theorem rdHex_fit (l : List UInt8) : (rdHex l).2.1 ≤ l.length ∧ (rdHex l).1 < 256 ∧ ((rdHex l).2.2 = true → (rdHex l).2.1 = 2) := by
  match l with
  | [] => simp [rdHex]
  | [a] => by_cases h : isHex a = true <;> simp [rdHex, h]
  | a :: b :: r =>
    have ha := (digOf_all a).1
    have hb := (digOf_all b).1
    by_cases h : isHex a = true
    · by_cases h' : isHex b = true
      · simp [rdHex, h, h']
        omega
      · simp [rdHex, h, h']
    · simp [rdHex, h]
theorem rdEsc_fit (R : List UInt8) (l : List UInt8) : (rdEsc l).2.1 ≤ l.length ∧ (rdEsc l).1 < 256 ∧ ((rdEsc l).2.2 = true → 1 ≤ (rdEsc l).2.1 ∧ (chr R (rdEsc l).1).length ≤ (rdEsc l).2.1 + 1) := by
  match l with
  | [] => simp [rdEsc]
  | c :: r =>
    have h := rdHex_fit r
    simp only [rdEsc]
    split
    · simp [chr]
    split
    · simp [chr]
    split
    · simp [chr]
    split
    · have := (chr_pos R (rdHex r).1).2
      refine ⟨by simp; omega, h.2.1, fun e => ?_⟩
      have := h.2.2 e
      simp only
      omega
    split
    · simp
    · rename_i hv
      have hv' : vis c.toNat = true := by
        cases e : vis c.toNat
        · exact absurd (.inl e) hv
        · rfl
      have := chr_short (R := R) hv'
      exact ⟨by simp, c.toNat_lt, fun _ => ⟨Nat.le_refl _, this⟩⟩
theorem rdChar_fit (R : List UInt8) (l : List UInt8) : (rdChar R l).2.1 ≤ l.length ∧ (rdChar R l).1 < 256 ∧ ((rdChar R l).2.2 = true → 1 ≤ (rdChar R l).2.1 ∧ (chr R (rdChar R l).1).length ≤ (rdChar R l).2.1) := by
  match l with
  | [] => simp [rdChar]
  | c :: r =>
    have h := rdEsc_fit R r
    simp only [rdChar]
    split
    · refine ⟨by simp; omega, h.2.1, fun e => ?_⟩
      have := h.2.2 e
      simp only
      omega
    split
    · simp
    · rename_i hv
      have hv' : vis c.toNat = true := by
        cases e : vis c.toNat
        · exact absurd (.inl e) hv
        · rfl
      have hm : c ∉ R := fun h => hv (.inr h)
      exact ⟨by simp, c.toNat_lt, fun _ => ⟨Nat.le_refl _, by rw [chr_one hv' hm]; exact Nat.le_refl _⟩⟩
end Go.Proofs.YthiiinbkkjacbaaDoor

/- Sets as texts, printed and read, and how long they are. Of no program. -/
namespace Go.Proofs.YthiiinbkkjacbaaDoor

/-! ### sums over the bytes -/
def sm (g : Nat → Nat) : Nat → Nat
  | 0 => 0
  | n + 1 => sm g n + g n
theorem sm_le {g h : Nat → Nat} : ∀ n, (∀ b, b < n → g b ≤ h b) → sm g n ≤ sm h n
  | 0, _ => Nat.le_refl _
  | n + 1, H => by
    have := sm_le n fun b hb => H b (by omega)
    have := H n (by omega)
    simp only [sm]
    omega
theorem sm_add (g h : Nat → Nat) : ∀ n, sm (fun b => g b + h b) n = sm g n + sm h n
  | 0 => rfl
  | n + 1 => by
    simp only [sm, sm_add g h n]
    omega
theorem sm_at (a x : Nat) : ∀ n, sm (fun b => if b = a then x else 0) n = if a < n then x else 0
  | 0 => by simp [sm]
  | n + 1 => by
    simp only [sm, sm_at a x n]
    by_cases h : a < n
    · rw [if_pos h, if_neg (by omega), if_pos (by omega)]
      omega
    · by_cases h' : n = a
      · rw [if_neg h, if_pos h', if_pos (by omega)]
        omega
      · rw [if_neg h, if_neg h', if_neg (by omega)]

def mC (n : Nat) : Nat := (chr RC n).length
theorem mC_fit (n : Nat) : 1 ≤ mC n ∧ mC n ≤ 4 := chr_pos RC n
/-- what an edge ahead of b may cost, twice -/
def wt (b : Nat) : Nat := 2 * max (mC (b - 1)) (mC b) + 1
theorem wt_le (b : Nat) : wt b ≤ 9 := by
  have := mC_fit (b - 1)
  have := mC_fit b
  unfold wt
  omega
theorem wt_lo (b : Nat) : 2 * mC b + 1 ≤ wt b := by unfold wt; omega
theorem wt_hi (b : Nat) : 2 * mC b + 1 ≤ wt (b + 1) := by unfold wt; rw [Nat.add_sub_cancel]; omega
set_option maxRecDepth 100000 in
theorem wt_one : ∀ n : Fin 256, wt n.val + wt (n.val + 1) ≤ 12 * mC n.val := by decide +kernel

def edge (f : Nat → Bool) (b : Nat) : Bool := (decide (0 < b) && f (b - 1)) != (decide (b < 256) && f b)
def out (f : Nat → Bool) : Nat := sm (fun b => if edge f b = true then wt b else 0) 257
def inn (f : Nat → Bool) : Nat := sm (fun b => if (0 < b ∧ b < 256) ∧ f (b - 1) ≠ f b then wt b else 0) 257
theorem out_inn (f : Nat → Bool) : out f ≤ inn f + 18 := by
  have h : out f ≤ sm (fun b => (if (0 < b ∧ b < 256) ∧ f (b - 1) ≠ f b then wt b else 0) + ((if b = 0 then 9 else 0) + (if b = 256 then 9 else 0))) 257 := by
    refine sm_le 257 fun b hb => ?_
    have := wt_le b
    by_cases h0 : b = 0
    · subst h0
      split <;> simp <;> omega
    · by_cases h1 : b = 256
      · subst h1
        split <;> simp <;> omega
      · have e : edge f b = (f (b - 1) != f b) := by
          unfold edge
          rw [decide_eq_true (by omega), decide_eq_true (by omega)]
          simp
        rw [e, if_neg h0, if_neg h1]
        split
        · rename_i h
          rw [if_pos ⟨by omega, by simpa using h⟩]
          omega
        · omega
  rw [sm_add, sm_add, sm_at, sm_at] at h
  exact h
theorem inn_congr {f g : Nat → Bool} (h : ∀ n, n < 256 → f n = g n) : inn f = inn g := by
  have one : ∀ {f g : Nat → Bool}, (∀ n, n < 256 → f n = g n) → inn f ≤ inn g := fun {f g} h => by
    refine sm_le 257 fun b hb => ?_
    by_cases c : 0 < b ∧ b < 256
    · rw [h b c.2, h (b - 1) (by omega)]
      exact Nat.le_refl _
    · rw [if_neg fun e => c e.1, if_neg fun e => c e.1]
      exact Nat.le_refl _
  exact Nat.le_antisymm (one h) (one fun n hn => (h n hn).symm)
theorem inn_not (f : Nat → Bool) : inn (fNot f) = inn f := by
  have e : ∀ b, ((fNot f) (b - 1) ≠ (fNot f) b) = (f (b - 1) ≠ f b) := fun b => by
    unfold fNot
    cases f (b - 1) <;> cases f b <;> simp
  unfold inn
  simp only [e]
theorem inn_any (f g : Nat → Bool) : inn (fAny [f, g]) ≤ inn f + inn g := by
  unfold inn
  rw [← sm_add]
  refine sm_le 257 fun b hb => ?_
  by_cases c : 0 < b ∧ b < 256
  · simp only [c, true_and, fAny, List.any_cons, List.any_nil, Bool.or_false]
    cases f (b - 1) <;> cases f b <;> cases g (b - 1) <;> cases g b <;> simp
  · rw [if_neg fun e => c e.1]
    omega
theorem inn_none : inn fNone = 0 := by
  have : inn fNone ≤ sm (fun b => if b = 300 then 0 else 0) 257 := sm_le 257 fun b hb => by simp [fNone]
  rw [sm_at] at this
  simpa using this
theorem inn_span {lo hi : Nat} (h : lo ≤ hi) : inn (fSpan lo hi) ≤ wt lo + wt (hi + 1) := by
  have h1 : inn (fSpan lo hi) ≤ sm (fun b => (if b = lo then wt lo else 0) + (if b = hi + 1 then wt (hi + 1) else 0)) 257 := by
    refine sm_le 257 fun b hb => ?_
    by_cases h0 : b = lo
    · subst h0
      rw [if_pos rfl]
      split <;> omega
    · by_cases h1 : b = hi + 1
      · subst h1
        rw [if_pos rfl]
        split <;> omega
      · rw [if_neg h0, if_neg h1, if_neg]
        · omega
        · rintro ⟨c, d⟩
          refine d ?_
          unfold fSpan
          congr 1
          · congr 1
            rw [eq_iff_iff]
            omega
          · congr 1
            rw [eq_iff_iff]
            omega
  rw [sm_add, sm_at, sm_at] at h1
  split at h1 <;> split at h1 <;> omega
theorem inn_one (n : Nat) (hn : n < 256) : inn (fOne n) ≤ 12 * mC n := by
  have e : inn (fOne n) = inn (fSpan (n : Nat) (n : Nat)) := inn_congr fun m hm => by
    unfold fOne fSpan
    by_cases h : m = n
    · subst h; simp
    · rw [decide_eq_false h]
      symm
      simp
      omega
  rw [e]
  exact Nat.le_trans (inn_span (Nat.le_refl _)) (wt_one ⟨n, hn⟩)

/-! ### runs as texts -/
def runTxt (p : Nat × Nat) : List UInt8 := chr RC p.1 ++ ((if p.1 + 1 < p.2 then [45] else []) ++ (if p.1 < p.2 then chr RC p.2 else []))
def runsL (L : List (Nat × Nat)) : List UInt8 := L.flatMap runTxt
theorem runTxt_len (p : Nat × Nat) : 2 * (runTxt p).length ≤ wt p.1 + wt (p.2 + 1) := by
  have h1 := wt_lo p.1
  have h2 := wt_hi p.2
  unfold runTxt
  simp only [List.length_append]
  have e1 : (chr RC p.1).length = mC p.1 := rfl
  have e2 : (chr RC p.2).length = mC p.2 := rfl
  split <;> split <;> simp only [List.length_cons, List.length_nil] <;> omega
theorem runs_len : ∀ (m : Nat) (f : Nat → Bool), (elems f).length ≤ m → 2 * (runsL (runs f)).length ≤ out f
  | m, f, hm => by
    by_cases hn : ∀ n, n < 256 → f n = false
    · rw [runs_none hn]
      simp [runsL]
    · obtain ⟨a, ha, hfa, hmin, _⟩ := least f hn
      obtain ⟨h1, h2, h3, h4⟩ := lastR_spec f 255 a (by omega) ha hfa
      have hstep := runs_step f a ha hfa hmin
      generalize hL : lastR f a = L at *
      have hfew : (elems (without f a L)).length < (elems f).length := fewer ha hfa hmin (by simp [without, h1]) fun n _ h => by
        simp [without] at h
        exact h.1
      match m, hm with
      | 0, hm => omega
      | m + 1, hm =>
        have ih := runs_len m (without f a L) (by omega)
        have hb : out (without f a L) + (wt a + wt (L + 1)) ≤ out f := by
          have h0 : sm (fun b => (if edge (without f a L) b = true then wt b else 0) + ((if b = a then wt a else 0) + (if b = L + 1 then wt (L + 1) else 0))) 257 ≤ out f := by
            refine sm_le 257 fun b hb => ?_
            have hw : ∀ n, n < 256 → without f a L n = if n ≤ L then false else f n := fun n hn => by
              unfold without
              by_cases c : n ≤ L
              · rw [if_pos c]
                by_cases c' : a ≤ n
                · simp [c, c']
                · rw [hmin n (by omega)]
                  rfl
              · rw [if_neg c]
                simp [c]
            have ew : edge (without f a L) b = if b ≤ L + 1 then (decide (b < 256) && decide (L < b) && f b) else edge f b := by
              unfold edge
              by_cases c : b ≤ L + 1
              · rw [if_pos c]
                by_cases c0 : 0 < b
                · rw [hw (b - 1) (by omega), if_pos (by omega)]
                  by_cases c1 : b < 256
                  · rw [hw b c1]
                    by_cases c2 : b ≤ L
                    · simp [c2]
                      omega
                    · simp [c1, c2]
                      intro _
                      omega
                  · simp [c1]
                · have : b = 0 := by omega
                  subst this
                  rw [hw 0 (by omega), if_pos (by omega)]
                  simp
              · rw [if_neg c, hw (b - 1) (by omega), if_neg (by omega)]
                by_cases c1 : b < 256
                · rw [hw b c1, if_neg (by omega)]
                · simp [c1]
            rw [ew]
            have hLb : ∀ n, n < 256 → n = L + 1 → f n = false := fun n hn e => by rw [e]; exact h4 (by omega)
            by_cases c : b ≤ L + 1
            · have z : (decide (b < 256) && decide (L < b) && f b) = false := by
                rw [Bool.eq_false_iff]
                intro h
                simp at h
                rw [hLb b h.1.1 (by omega)] at h
                exact absurd h.2 (by simp)
              rw [if_pos c, z]
              simp only [Bool.false_eq_true, if_false, Nat.zero_add]
              by_cases d : b = a
              · have e : edge f b = true := by
                  unfold edge
                  rw [d, hfa, decide_eq_true ha]
                  by_cases d0 : 0 < a
                  · rw [hmin (a - 1) (by omega)]
                    simp
                  · simp [d0]
                rw [e, if_pos d, if_neg (by omega), d]
                simp
              · by_cases d2 : b = L + 1
                · have e : edge f b = true := by
                    unfold edge
                    rw [show b - 1 = L by omega, h3 L (by omega) (Nat.le_refl _), decide_eq_true (show 0 < b by omega)]
                    by_cases d0 : b < 256
                    · rw [hLb b d0 d2]
                      simp
                    · simp [d0]
                  rw [e, if_neg d, if_pos d2, d2]
                  simp
                · rw [if_neg d, if_neg d2]
                  exact Nat.zero_le _
            · rw [if_neg c, if_neg (show ¬ b = a by omega), if_neg (show ¬ b = L + 1 by omega)]
              exact Nat.le_refl _
          rw [sm_add, sm_add, sm_at, sm_at, if_pos (by omega), if_pos (by omega)] at h0
          exact h0
        rw [hstep]
        have := runTxt_len (a, L)
        simp only [runsL, List.flatMap_cons, List.length_append] at ih ⊢
        simp only at this
        omega
theorem runs_inn (f : Nat → Bool) : 2 * (runsL (runs f)).length ≤ inn f + 18 := Nat.le_trans (runs_len _ f (Nat.le_refl _)) (out_inn f)
end Go.Proofs.YthiiinbkkjacbaaDoor

/- Does a byte stand first? -/
namespace Go.Proofs.YthiiinbkkjacbaaDoor
/-- does a byte stand first? -/
def stands (l : List UInt8) (c : UInt8) : Bool := l.head? == some c
end Go.Proofs.YthiiinbkkjacbaaDoor

/- Classes read and printed: what is printed is read as the set; how long a set that was read is printed. Of no program. -/
namespace Go.Proofs.YthiiinbkkjacbaaDoor

def rdItem (l : List UInt8) : (Nat → Bool) × Nat × Bool :=
  if (rdChar RC l).2.2 = false then (fNone, (rdChar RC l).2.1, false)
  else if stands (l.drop (rdChar RC l).2.1) 45 = true then
    (if (rdChar RC (l.drop ((rdChar RC l).2.1 + 1))).2.2 = false then (fNone, (rdChar RC l).2.1 + 1 + (rdChar RC (l.drop ((rdChar RC l).2.1 + 1))).2.1, false)
     else if (rdChar RC (l.drop ((rdChar RC l).2.1 + 1))).1 < (rdChar RC l).1 then (fNone, (rdChar RC l).2.1 + 1 + (rdChar RC (l.drop ((rdChar RC l).2.1 + 1))).2.1 - 1, false)
     else (fSpan (rdChar RC l).1 (rdChar RC (l.drop ((rdChar RC l).2.1 + 1))).1, (rdChar RC l).2.1 + 1 + (rdChar RC (l.drop ((rdChar RC l).2.1 + 1))).2.1, true))
  else (fOne (rdChar RC l).1, (rdChar RC l).2.1, true)
def rdItems : Nat → List UInt8 → (Nat → Bool) → (Nat → Bool) × Nat × Bool
  | 0, _, _ => (fNone, 0, false)
  | n + 1, l, acc =>
    if (rdItem l).2.2 = false then (fNone, (rdItem l).2.1, false)
    else if stands (l.drop (rdItem l).2.1) 93 = true then (fAny [acc, (rdItem l).1], (rdItem l).2.1, true)
    else ((rdItems n (l.drop (rdItem l).2.1) (fAny [acc, (rdItem l).1])).1, (rdItem l).2.1 + (rdItems n (l.drop (rdItem l).2.1) (fAny [acc, (rdItem l).1])).2.1, (rdItems n (l.drop (rdItem l).2.1) (fAny [acc, (rdItem l).1])).2.2)
/-- behind the bracket -/
def rdClass (l : List UInt8) : (Nat → Bool) × Nat × Bool :=
  if stands l 94 = true then
    (if (rdItems l.length (l.drop 1) fNone).2.2 = false then (fNone, 1 + (rdItems l.length (l.drop 1) fNone).2.1, false) else (fNot (rdItems l.length (l.drop 1) fNone).1, 1 + (rdItems l.length (l.drop 1) fNone).2.1 + 1, true))
  else (if (rdItems (l.length + 1) l fNone).2.2 = false then (fNone, (rdItems (l.length + 1) l fNone).2.1, false) else ((rdItems (l.length + 1) l fNone).1, (rdItems (l.length + 1) l fNone).2.1 + 1, true))
def fDot : Nat → Bool := fNot (fOne 10)
def rdSet : List UInt8 → (Nat → Bool) × Nat × Bool
  | [] => (fNone, 0, false)
  | c :: r =>
    if c = 46 then (fDot, 1, true) else if c = 91 then ((rdClass r).1, (rdClass r).2.1 + 1, (rdClass r).2.2)
    else (fOne (rdChar RT (c :: r)).1, (rdChar RT (c :: r)).2.1, (rdChar RT (c :: r)).2.2)
def others (f : Nat → Bool) : Bool := (elems f).length == 0 || (decide (128 < (elems f).length) && decide ((elems f).length < 256))
def shSet (f : Nat → Bool) : List UInt8 :=
  if (elems f).length = 1 then chr RT ((elems f).headD 0) else if sameSet f fDot = true then [46] else
  if others f = true then [91, 94] ++ (runsL (runs (fNot f)) ++ [93]) else [91] ++ (runsL (runs f) ++ [93])

/-! ### fits -/
theorem rdItem_fit (l : List UInt8) : (rdItem l).2.1 ≤ l.length ∧ ((rdItem l).2.2 = true → 1 ≤ (rdItem l).2.1 ∧ inn (rdItem l).1 ≤ 12 * (rdItem l).2.1) := by
  have h := rdChar_fit RC l
  have h2 := rdChar_fit RC (l.drop ((rdChar RC l).2.1 + 1))
  have h3 := wt_le (rdChar RC l).1
  have h4 := wt_le ((rdChar RC (l.drop ((rdChar RC l).2.1 + 1))).1 + 1)
  have h5 := inn_one (rdChar RC l).1 h.2.1
  rw [List.length_drop] at h2
  unfold rdItem
  by_cases c : (rdChar RC l).2.2 = false
  · rw [if_pos c]
    exact ⟨h.1, fun e => by cases e⟩
  · have c' : (rdChar RC l).2.2 = true := by simpa using c
    have hh := h.2.2 c'
    rw [if_neg c]
    by_cases d : stands (l.drop (rdChar RC l).2.1) 45 = true
    · have hd : (rdChar RC l).2.1 < l.length := by
        rcases Nat.lt_or_ge (rdChar RC l).2.1 l.length with k | k
        · exact k
        · rw [List.drop_eq_nil_of_le k] at d
          exact absurd d (by simp [stands])
      rw [if_pos d]
      by_cases e : (rdChar RC (l.drop ((rdChar RC l).2.1 + 1))).2.2 = false
      · rw [if_pos e]
        exact ⟨by simp only; omega, fun e => by cases e⟩
      · rw [if_neg e]
        have e' := h2.2.2 (by simpa using e)
        by_cases g : (rdChar RC (l.drop ((rdChar RC l).2.1 + 1))).1 < (rdChar RC l).1
        · rw [if_pos g]
          exact ⟨by simp only; omega, fun e => by cases e⟩
        · rw [if_neg g]
          have := inn_span (lo := (rdChar RC l).1) (hi := (rdChar RC (l.drop ((rdChar RC l).2.1 + 1))).1) (by omega)
          exact ⟨by simp only; omega, fun _ => ⟨by simp only; omega, by simp only; omega⟩⟩
    · rw [if_neg d]
      have e1 : mC (rdChar RC l).1 = (chr RC (rdChar RC l).1).length := rfl
      exact ⟨h.1, fun _ => ⟨hh.1, by simp only; omega⟩⟩
theorem rdItems_fit : ∀ (n : Nat) (l : List UInt8) (acc : Nat → Bool), (rdItems n l acc).2.1 ≤ l.length ∧ ((rdItems n l acc).2.2 = true → 1 ≤ (rdItems n l acc).2.1 ∧ (rdItems n l acc).2.1 < l.length ∧ inn (rdItems n l acc).1 ≤ inn acc + 12 * (rdItems n l acc).2.1)
  | 0, l, acc => ⟨Nat.zero_le _, fun e => by cases e⟩
  | n + 1, l, acc => by
    have h := rdItem_fit l
    have h2 := rdItems_fit n (l.drop (rdItem l).2.1) (fAny [acc, (rdItem l).1])
    have h3 := inn_any acc (rdItem l).1
    rw [List.length_drop] at h2
    simp only [rdItems]
    by_cases c : (rdItem l).2.2 = false
    · rw [if_pos c]
      exact ⟨h.1, fun e => by cases e⟩
    · have hh := h.2 (by simpa using c)
      rw [if_neg c]
      by_cases d : stands (l.drop (rdItem l).2.1) 93 = true
      · rw [if_pos d]
        have hd : (rdItem l).2.1 < l.length := by
          rcases Nat.lt_or_ge (rdItem l).2.1 l.length with k | k
          · exact k
          · rw [List.drop_eq_nil_of_le k] at d
            exact absurd d (by simp [stands])
        exact ⟨h.1, fun _ => ⟨hh.1, hd, by simp only; omega⟩⟩
      · rw [if_neg d]
        refine ⟨by simp only; omega, fun e => ?_⟩
        have := h2.2 e
        exact ⟨by simp only; omega, by simp only; omega, by simp only; omega⟩
theorem rdClass_fit (l : List UInt8) : (rdClass l).2.1 ≤ l.length ∧ ((rdClass l).2.2 = true → 2 ≤ (rdClass l).2.1 ∧ inn (rdClass l).1 + 12 ≤ 12 * (rdClass l).2.1) := by
  have h1 := rdItems_fit l.length (l.drop 1) fNone
  have h2 := rdItems_fit (l.length + 1) l fNone
  have h3 := inn_not (rdItems l.length (l.drop 1) fNone).1
  rw [List.length_drop] at h1
  rw [inn_none] at h1 h2
  unfold rdClass
  by_cases c : stands l 94 = true
  · rw [if_pos c]
    have hl : 0 < l.length := by
      cases l with
      | nil => exact absurd c (by simp [stands])
      | cons x r => simp
    split
    · exact ⟨by simp only; omega, fun e => by cases e⟩
    · rename_i d
      have := h1.2 (by simpa using d)
      exact ⟨by simp only; omega, fun _ => ⟨by simp only; omega, by simp only; omega⟩⟩
  · rw [if_neg c]
    split
    · exact ⟨h2.1, fun e => by cases e⟩
    · rename_i d
      have := h2.2 (by simpa using d)
      exact ⟨by simp only; omega, fun _ => ⟨by simp only; omega, by simp only; omega⟩⟩
theorem shSet_one {f : Nat → Bool} {n : Nat} (h : elems f = [n]) : shSet f = chr RT n := by
  unfold shSet
  rw [h]
  rfl
theorem elems_one {n : Nat} (hn : n < 256) : elems (fOne n) = [n] := by
  have h := filter_first (fOne n) n (by simp [fOne]) (fun j hj => by simp [fOne]; omega) 256 hn
  unfold elems
  rw [h]
  congr 1
  rw [List.filter_eq_nil_iff]
  intro a _
  simp [fOne]
theorem rdSet_fit (l : List UInt8) : (rdSet l).2.1 ≤ l.length ∧ ((rdSet l).2.2 = true → 1 ≤ (rdSet l).2.1 ∧ 5 * ((shSet (rdSet l).1).length + 2) ≤ 34 * (rdSet l).2.1) := by
  match l with
  | [] => exact ⟨Nat.le_refl _, fun e => by cases e⟩
  | c :: r =>
    simp only [rdSet]
    split
    · refine ⟨by simp, fun _ => ⟨Nat.le_refl _, ?_⟩⟩
      have h1 : (elems fDot).length = 255 := by decide +kernel
      have h2 : sameSet fDot fDot = true := same_of fun _ _ => rfl
      have : shSet fDot = [46] := by
        unfold shSet
        rw [if_neg (by omega), if_pos h2]
      rw [this]
      simp
    split
    · have h := rdClass_fit r
      refine ⟨by simp only [List.length_cons]; omega, fun e => ?_⟩
      have hh := h.2 e
      generalize (rdClass r).1 = f at *
      have g1 := (chr_pos RT ((elems f).headD 0)).2
      have g2 := runs_inn f
      have g3 := runs_inn (fNot f)
      rw [inn_not] at g3
      refine ⟨by simp only; omega, ?_⟩
      unfold shSet
      split
      · simp only; omega
      split
      · simp only [List.length_cons, List.length_nil]; omega
      split
      · simp only [List.length_append, List.length_cons, List.length_nil]; omega
      · simp only [List.length_append, List.length_cons, List.length_nil]; omega
    · have h := rdChar_fit RT (c :: r)
      refine ⟨h.1, fun e => ?_⟩
      have hh := h.2.2 e
      rw [shSet_one (elems_one h.2.1)]
      exact ⟨hh.1, by simp only; omega⟩

/-! ### what is printed is read -/
theorem stands_chr {c : UInt8} (hc : c ∈ RC) (h92 : c ≠ 92) (n : Nat) (rest : List UInt8) : stands (chr RC n ++ rest) c = false := by
  obtain ⟨h, t, e, hh⟩ := chr_head RC n
  rw [e]
  simp only [stands, List.cons_append, List.head?_cons]
  rcases hh with rfl | hh
  · simp [h92.symm]
  · have : h ≠ c := fun e => hh (e ▸ hc)
    simp [this]
/-- what may follow an item: no dash -/
def NoDash (l : List UInt8) : Prop := stands l 45 = false
theorem item_one {n : Nat} (hn : n < 256) {rest : List UInt8} (h : NoDash rest) : rdItem (chr RC n ++ rest) = (fOne n, (chr RC n).length, true) := by
  have e := chr_read res_C hn rest
  unfold rdItem
  rw [e]
  simp only [Bool.true_eq_false, if_false]
  rw [List.drop_left, if_neg (by rw [h]; simp)]
theorem item_span {a b : Nat} (ha : a < 256) (hb : b < 256) (hab : a ≤ b) (rest : List UInt8) : rdItem (chr RC a ++ (45 :: (chr RC b ++ rest))) = (fSpan a b, (chr RC a).length + 1 + (chr RC b).length, true) := by
  have e := chr_read res_C ha (45 :: (chr RC b ++ rest))
  have e2 := chr_read res_C hb rest
  unfold rdItem
  rw [e]
  simp only [Bool.true_eq_false, if_false]
  have hs : stands (45 :: (chr RC b ++ rest)) 45 = true := by simp [stands]
  rw [List.drop_left, if_pos hs, List.drop_append, List.drop_eq_nil_of_le (by omega), show (chr RC a).length + 1 - (chr RC a).length = 1 by omega]
  simp only [List.nil_append, List.drop_succ_cons, List.drop_zero, e2, Bool.true_eq_false, if_false]
  rw [if_neg (by omega)]
/-- one item more, with what follows it -/
theorem items_more {n : Nat} {l : List UInt8} {acc f : Nat → Bool} {k : Nat} (h : rdItem l = (f, k, true)) :
    rdItems (n + 1) l acc = if stands (l.drop k) 93 = true then (fAny [acc, f], k, true) else ((rdItems n (l.drop k) (fAny [acc, f])).1, k + (rdItems n (l.drop k) (fAny [acc, f])).2.1, (rdItems n (l.drop k) (fAny [acc, f])).2.2) := by
  simp only [rdItems, h, Bool.true_eq_false, if_false]
/-- behind items the bracket, or another item -/
def Behind (tail rest : List UInt8) : Prop := tail = 93 :: rest ∨ ∃ n r, tail = chr RC n ++ r
theorem behind_dash {tail rest : List UInt8} (h : Behind tail rest) : NoDash tail := by
  rcases h with rfl | ⟨n, r, rfl⟩
  · simp [NoDash, stands]
  · exact stands_chr (by decide) (by decide) n r
theorem runs_read : ∀ (L : List (Nat × Nat)) (rest : List UInt8) (n : Nat) (acc : Nat → Bool), (∀ p ∈ L, p.1 ≤ p.2 ∧ p.2 < 256) → L ≠ [] → (runsL L).length ≤ n →
    ∃ g, rdItems n (runsL L ++ 93 :: rest) acc = (g, (runsL L).length, true) ∧ ∀ m, g m = (acc m || fAny (L.map spanOf) m)
  | [], _, _, _, _, h, _ => absurd rfl h
  | p :: L, rest, n, acc, hL, _, hn => by
    have hp := hL p (List.mem_cons_self ..)
    have hL' : ∀ q ∈ L, q.1 ≤ q.2 ∧ q.2 < 256 := fun q hq => hL q (List.mem_cons_of_mem _ hq)
    have hpos := (chr_pos RC p.1).1
    have hpos2 := (chr_pos RC p.2).1
    obtain ⟨tail, htail⟩ : ∃ t, t = runsL L ++ 93 :: rest := ⟨_, rfl⟩
    have hbeh : Behind tail rest := by
      rw [htail]
      cases L with
      | nil => exact .inl rfl
      | cons q r =>
        exact .inr ⟨q.1, ((if q.1 + 1 < q.2 then [45] else []) ++ (if q.1 < q.2 then chr RC q.2 else [])) ++ (runsL r ++ 93 :: rest), by simp [runsL, runTxt]⟩
    have hdash := behind_dash hbeh
    -- what is left behind this run
    have fin : ∀ (n : Nat) (acc' : Nat → Bool), (runsL L).length ≤ n → ∃ g, (if stands tail 93 = true then (acc', 0, true) else rdItems n tail acc') = (g, (runsL L).length, true) ∧ ∀ m, g m = (acc' m || fAny (L.map spanOf) m) := fun n acc' hn' => by
      cases hLe : L with
      | nil =>
        subst hLe
        rw [htail]
        exact ⟨acc', by simp [runsL, stands], fun m => by simp [fAny]⟩
      | cons q r =>
        have hs : stands tail 93 = false := by
          rw [htail, hLe]
          simp only [runsL, List.flatMap_cons, runTxt, List.append_assoc]
          exact stands_chr (by decide) (by decide) _ _
        rw [hs, ← hLe]
        simp only [Bool.false_eq_true, if_false]
        rw [htail]
        exact runs_read L rest n acc' hL' (by rw [hLe]; simp) hn'
    have hcons : runsL (p :: L) ++ 93 :: rest = runTxt p ++ tail := by
      rw [htail]
      simp [runsL]
    have hlen : (runsL (p :: L)).length = (runTxt p).length + (runsL L).length := by simp [runsL]
    rw [hcons]
    rw [hlen] at hn ⊢
    -- the law of one more item
    have more : ∀ {m : Nat} {l t : List UInt8} {a f : Nat → Bool}, rdItem (l ++ t) = (f, l.length, true) → rdItems (m + 1) (l ++ t) a = ((if stands t 93 = true then (fAny [a, f], 0, true) else rdItems m t (fAny [a, f])).1, l.length + (if stands t 93 = true then (fAny [a, f], 0, true) else rdItems m t (fAny [a, f])).2.1, (if stands t 93 = true then (fAny [a, f], 0, true) else rdItems m t (fAny [a, f])).2.2) := fun {m l t a f} h => by
      rw [items_more h, List.drop_left]
      by_cases c : stands t 93 = true
      · simp only [c, if_true, Nat.add_zero]
      · simp only [c]
        rfl
    obtain ⟨m, rfl⟩ : ∃ m, n = m + 1 := ⟨n - 1, by unfold runTxt at hn; simp only [List.length_append] at hn; omega⟩
    by_cases c0 : p.1 < p.2
    · by_cases c1 : p.1 + 1 < p.2
      · have e : runTxt p = chr RC p.1 ++ 45 :: chr RC p.2 := by
          unfold runTxt
          rw [if_pos c0, if_pos c1]
          rfl
        have el : (runTxt p).length = (chr RC p.1).length + 1 + (chr RC p.2).length := by
          rw [e]
          simp
          omega
        have hi := item_span (a := p.1) (b := p.2) (by omega) hp.2 hp.1 tail
        have hi' : rdItem (runTxt p ++ tail) = (fSpan p.1 p.2, (runTxt p).length, true) := by
          rw [el, e, ← hi]
          simp
        obtain ⟨g, hg, hm⟩ := fin m (fAny [acc, fSpan p.1 p.2]) (by omega)
        refine ⟨g, by rw [more hi', hg], fun x => ?_⟩
        rw [hm]
        simp [fAny, spanOf, Bool.or_assoc]
      · have e : runTxt p = chr RC p.1 ++ chr RC p.2 := by
          unfold runTxt
          rw [if_pos c0, if_neg c1]
          rfl
        have el : (runTxt p).length = (chr RC p.1).length + (chr RC p.2).length := by
          rw [e]
          simp
        obtain ⟨m, rfl⟩ : ∃ k, m = k + 1 := ⟨m - 1, by omega⟩
        have h1 := item_one (n := p.1) (by omega) (rest := chr RC p.2 ++ tail) (stands_chr (by decide) (by decide) _ _)
        have h2 := item_one (n := p.2) hp.2 (rest := tail) hdash
        have hs : stands (chr RC p.2 ++ tail) 93 = false := stands_chr (by decide) (by decide) _ _
        obtain ⟨g, hg, hm⟩ := fin m (fAny [fAny [acc, fOne p.1], fOne p.2]) (by omega)
        refine ⟨g, ?_, fun x => ?_⟩
        · rw [e, List.append_assoc, more h1, hs]
          simp only [Bool.false_eq_true, if_false]
          rw [more h2, hg]
          simp only [List.length_append, Prod.mk.injEq, and_true, true_and]
          omega
        · rw [hm]
          have hx : (fOne p.1 x || fOne p.2 x) = spanOf p x := by
            unfold fOne spanOf fSpan
            rw [Bool.eq_iff_iff]
            simp
            omega
          simp only [fAny, List.any_cons, List.any_nil, Bool.or_false, List.map_cons, ← hx, Bool.or_assoc]
    · have e : runTxt p = chr RC p.1 := by
        unfold runTxt
        rw [if_neg c0, if_neg (by omega)]
        simp
      have el : (runTxt p).length = (chr RC p.1).length := by rw [e]
      have h1 := item_one (n := p.1) (by omega) (rest := tail) hdash
      obtain ⟨g, hg, hm⟩ := fin m (fAny [acc, fOne p.1]) (by omega)
      refine ⟨g, by rw [e, more h1, hg], fun x => ?_⟩
      rw [hm]
      have hx : fOne p.1 x = spanOf p x := by
        unfold fOne spanOf fSpan
        rw [Bool.eq_iff_iff]
        simp
        omega
      simp only [fAny, List.any_cons, List.any_nil, Bool.or_false, List.map_cons, ← hx, Bool.or_assoc]
theorem runs_ne {f : Nat → Bool} (h : (elems f).length ≠ 0) : runs f ≠ [] := by
  intro e
  have := (back_all f).sum
  rw [e] at this
  exact h (by rw [← this]; rfl)
theorem elems_not (f : Nat → Bool) : (elems (fNot f)).length = 256 - (elems f).length := by
  unfold elems
  rw [← List.countP_eq_length_filter, ← List.countP_eq_length_filter]
  have h := List.length_eq_countP_add_countP f (l := List.range 256)
  have e : List.countP (fNot f) (List.range 256) = List.countP (fun a => decide ¬f a = true) (List.range 256) := List.countP_congr fun n _ => by simp [fNot]
  rw [e]
  simp only [List.length_range] at h
  omega
theorem runsL_head {f : Nat → Bool} (h : (elems f).length ≠ 0) (rest : List UInt8) : stands (runsL (runs f) ++ rest) 94 = false := by
  have := runs_ne h
  match he : runs f, this with
  | p :: L, _ =>
    simp only [runsL, List.flatMap_cons, runTxt, List.append_assoc]
    exact stands_chr (by decide) (by decide) _ _
/-- what is printed of a set is read as it -/
theorem shSet_read (f : Nat → Bool) (rest : List UInt8) : ∃ g, rdSet (shSet f ++ rest) = (g, (shSet f).length, true) ∧ ∀ n, n < 256 → g n = f n := by
  unfold shSet
  split
  · rename_i h
    obtain ⟨a, ha⟩ : ∃ a, elems f = [a] := by
      match he : elems f, h with
      | [a], _ => exact ⟨a, rfl⟩
    have hm := fun n => mem_elems f n
    rw [ha] at hm ⊢
    have ha' := (hm a).1 (by simp)
    have e := chr_read res_T ha'.1 rest
    obtain ⟨c, t, hc, hh⟩ := chr_head RT a
    simp only [List.headD_cons]
    refine ⟨fOne a, ?_, fun n hn => ?_⟩
    · rw [← show (chr RT a).length = (chr RT a).length from rfl]
      have e' := e
      rw [hc] at e' ⊢
      have h46 : c ≠ 46 := by
        rcases hh with rfl | hh
        · decide
        · exact fun e => hh (e ▸ (by decide))
      have h91 : c ≠ 91 := by
        rcases hh with rfl | hh
        · decide
        · exact fun e => hh (e ▸ (by decide))
      simp only [List.cons_append] at e' ⊢
      simp only [rdSet, h46, h91, if_false, e']
    · have := hm n
      unfold fOne
      simp only [List.mem_singleton] at this
      rw [Bool.eq_iff_iff]
      simp only [decide_eq_true_eq]
      rw [this]
      exact ⟨fun h => h.2, fun h => ⟨hn, h⟩⟩
  split
  · rename_i h
    refine ⟨fDot, by simp [rdSet], fun n hn => ((same_iff f fDot).1 h n hn).symm⟩
  split
  · rename_i h1 h2 h3
    have hne : (elems (fNot f)).length ≠ 0 := by
      rw [elems_not]
      simp only [others, Bool.or_eq_true, beq_iff_eq, Bool.and_eq_true, decide_eq_true_eq] at h3
      have := elems_le f
      omega
    have hn : (runsL (runs (fNot f))).length ≤ (94 :: (runsL (runs (fNot f)) ++ 93 :: rest)).length := by simp; omega
    obtain ⟨g, hg, hm⟩ := runs_read (runs (fNot f)) rest _ fNone (fun p hp => runs_le2 hp) (runs_ne hne) hn
    refine ⟨fNot g, ?_, fun n hn => ?_⟩
    · simp only [List.cons_append, List.nil_append, List.append_assoc]
      simp only [rdSet, show ((91 : UInt8) = 46) = False by decide, if_false, if_true]
      unfold rdClass
      have hs : stands (94 :: (runsL (runs (fNot f)) ++ 93 :: rest)) 94 = true := by simp [stands]
      rw [if_pos hs]
      simp only [List.drop_succ_cons, List.drop_zero]
      rw [hg]
      simp only [Bool.true_eq_false, if_false, List.length_cons, List.length_append, List.length_nil, Prod.mk.injEq, true_and, and_true]
      omega
    · have hu := (back_all (fNot f)).union n hn
      unfold fNot at *
      rw [hm, hu]
      simp [fNone]
  · rename_i h1 h2 h3
    have hne : (elems f).length ≠ 0 := fun e => by
      unfold others at h3
      simp [e] at h3
    have hn : (runsL (runs f)).length ≤ (runsL (runs f) ++ 93 :: rest).length + 1 := by simp; omega
    obtain ⟨g, hg, hm⟩ := runs_read (runs f) rest _ fNone (fun p hp => runs_le2 hp) (runs_ne hne) hn
    refine ⟨g, ?_, fun n hn => ?_⟩
    · simp only [List.cons_append, List.nil_append, List.append_assoc]
      simp only [rdSet, show ((91 : UInt8) = 46) = False by decide, if_false, if_true]
      unfold rdClass
      rw [if_neg (by rw [runsL_head hne]; simp), hg]
      simp only [Bool.true_eq_false, if_false, List.length_cons, List.length_append, List.length_nil]
    · have hu := (back_all f).union n hn
      rw [hm, hu]
      simp [fNone]
/-- where a printed set begins: it is no sign, no bracket of a text, no bar -/
theorem shSet_head (f : Nat → Bool) : ∃ h t, shSet f = h :: t ∧ h ≠ 42 ∧ h ≠ 43 ∧ h ≠ 63 ∧ h ≠ 40 ∧ h ≠ 41 ∧ h ≠ 124 := by
  unfold shSet
  split
  · obtain ⟨c, t, hc, hh⟩ := chr_head RT ((elems f).headD 0)
    refine ⟨c, t, hc, ?_⟩
    rcases hh with rfl | hh
    · decide
    · have hx : ∀ x ∈ RT, c ≠ x := fun x hx e => hh (e ▸ hx)
      exact ⟨hx 42 (by decide), hx 43 (by decide), hx 63 (by decide), hx 40 (by decide), hx 41 (by decide), hx 124 (by decide)⟩
  split
  · exact ⟨46, [], rfl, by decide⟩
  split
  · exact ⟨91, _, rfl, by decide⟩
  · exact ⟨91, _, rfl, by decide⟩
end Go.Proofs.YthiiinbkkjacbaaDoor
