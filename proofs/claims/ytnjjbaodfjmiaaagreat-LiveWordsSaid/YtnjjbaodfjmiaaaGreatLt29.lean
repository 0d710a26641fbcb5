/- DfNet, DfAns, LvQue, LvMath, put together. -/
import Derived.Test.YtnjjbaodfjmiaaaGreatLt26
import Derived.Test.YtnjjbaodfjmiaaaGreatLt21
import Derived.Test.YtnjjbaodfjmiaaaGreatLt22
import Derived.Test.YtnjjbaodfjmiaaaGreatLt23
import Derived.Test.YtnjjbaodfjmiaaaGreatLt28
import Derived.Test.YtnjjbaodfjmiaaaGreatLt25
import Derived.Test.YtnjjbaodfjmiaaaGreatLt16
import Derived.Maps.AppendAt
import Derived.Deep.AppendLies
/- The machine of a net: classes by the net's sets, each class goes where its bytes go; the machine is right; a word's state stands for the word's spots, and its label is their token. -/
namespace Go.Proofs.YtnjjbaodfjmiaaaGreat
open Go.RowKit

/-- what tells the bytes apart -/
def netK (N : NetM) : Nat → List Bool := keyL (N.sets.map bitsE)
def clsN (N : NetM) : Nat → Nat := clsK (netK N)
def widN (N : NetM) : Nat := cntK (netK N) 256
/-- where a state goes by a class -/
def goN (N : NetM) (i : Nat) (l : List Int) (c : Nat) : List Int := if i = 0 then spI (startM N (lf (netK N) c)) else spI (stepM N l (lf (netK N) c))
/-- the machine behind n rows -/
def machS (N : NetM) (n : Nat) : List (List Int) × List (List Int) × List Int := outS (goN N) (tokenM N) (widN N) n
def machM (N : NetM) (n : Nat) : DfaM := ⟨clsN N, widN N, (machS N n).2.1, (machS N n).2.2⟩
section
variable {N : NetM} {n : Nat}
end
end Go.Proofs.YtnjjbaodfjmiaaaGreat

/- What Build answers for a net and a bound; the exact bound. -/
namespace Go.Proofs.YtnjjbaodfjmiaaaGreat
open Go.RowKit

/-- how many are found, with a bound -/
def fndN (N : NetM) (m : Nat) : Nat := (machS N (m + 1)).1.length
/-- the answer's error -/
def errB (N : NetM) (most : Int) : Int := if rightB N = false then 3 else if most < 1 ∨ 4096 < most then 2 else if most < fndN N most.toNat then 16 else 0
/-- no machine -/
def noneD : DfaM := ⟨fun _ => 0, 0, [], []⟩
def machB (N : NetM) (most : Int) : DfaM := if errB N most = 0 then machM N (fndN N most.toNat) else noneD
def cntB (N : NetM) (most : Int) : Int := if errB N most = 0 then fndN N most.toNat else 0
end Go.Proofs.YtnjjbaodfjmiaaaGreat

/- A queue: a row of the call's own that is let go at its front and grows at its end. -/
namespace Go.Proofs.YtnjjbaodfjmiaaaGreat
open Go.RowKit Go.Lib Go.Joins

/-- slice v is n elements of a block of the call's own, from some place on -/
def QRow (w : World) (base : Nat) (e : TypeId) (size : Nat) (v : Value) (n : Nat) (xs : List Value) : Prop :=
  xs.length = n * size ∧ ((v = .slice none 0 0 ∧ n = 0) ∨ ∃ g off cap cur, v = .slice (some ⟨g, off, none⟩) n cap ∧ base ≤ g ∧ w.heap[g]? = some (.cells cur e (0, 0)) ∧ n ≤ cap ∧ cap ≤ maxLen ∧ off + cap * size ≤ cur.size ∧ (cur.toList.drop off).take (n * size) = xs)
section
variable {w w' : World} {base : Nat} {e : TypeId} {size : Nat} {v : Value} {n : Nat} {xs : List Value}
theorem QRow.of (h : w.ownsRow base e size v n xs) : QRow w base e size v n xs := by
  refine ⟨h.1, ?_⟩
  rcases h.2 with h | ⟨g, cap, cur, rfl, h1, h2, h3, h4, h5, h6⟩
  · exact .inl h
  · exact .inr ⟨g, 0, cap, cur, rfl, h1, h2, h3, h4, by omega, by simpa using h6⟩
theorem QRow.nil (w : World) (base : Nat) (e : TypeId) (size : Nat) : QRow w base e size (.slice none 0 0) 0 [] := ⟨by simp, .inl ⟨rfl, rfl⟩⟩
theorem QRow.lt (h : QRow w base e size v n xs) : ∀ k, v.ownBlock = some k → base ≤ k ∧ k < w.heap.size := by
  intro k hk
  rcases h.2 with ⟨rfl, _⟩ | ⟨g, off, cap, cur, rfl, hb, hg, _⟩
  · cases hk
  · simp only [Value.ownBlock, Option.some.injEq] at hk
    subst hk
    exact ⟨hb, (Array.getElem?_eq_some_iff.1 hg).1⟩
theorem QRow.kept (h : QRow w base e size v n xs) {row : Option Nat} (hg : w.grownBy w' row) (hne : ∀ k, v.ownBlock = some k → row ≠ some k) : QRow w' base e size v n xs := by
  refine ⟨h.1, ?_⟩
  rcases h.2 with h | ⟨g, off, cap, cur, rfl, hb, hgg, rest⟩
  · exact .inl h
  · exact .inr ⟨g, off, cap, cur, rfl, hb, (hg.block g (Array.getElem?_eq_some_iff.1 hgg).1 fun e => hne g rfl e.symm).trans hgg, rest⟩
theorem QRow.below (h : QRow w base e size v n xs) (hb : Below w.heap.size w w') : QRow w' base e size v n xs :=
  h.kept (row := none) ⟨hb.os, hb.tape, hb.output, hb.size, fun k hk _ => hb.block k hk⟩ fun _ _ e => by cases e
theorem QRow.heap (h : QRow w base e size v n xs) (hk : ∀ k, v.ownBlock = some k → w'.heap[k]? = w.heap[k]?) : QRow w' base e size v n xs := by
  refine ⟨h.1, ?_⟩
  rcases h.2 with h | ⟨g, off, cap, cur, rfl, hb, hgg, rest⟩
  · exact .inl h
  · exact .inr ⟨g, off, cap, cur, rfl, hb, (hk g rfl).trans hgg, rest⟩
/-- a block of another type is none of the queue's -/
theorem QRow.off_type (h : QRow w base e size v n xs) {b : Nat} {t : TypeId} {cs : Array Value} {fr : Nat × Nat} (hb : w.heap[b]? = some (.cells cs t fr)) (hne : t ≠ e) : v.ownBlock ≠ some b := by
  intro hk
  rcases h.2 with ⟨rfl, _⟩ | ⟨g, off, cap, cur, rfl, _, hgg, _⟩
  · cases hk
  · simp only [Value.ownBlock, Option.some.injEq] at hk
    subst hk
    rw [hb] at hgg
    simp only [Option.some.injEq, Obj.cells.injEq] at hgg
    exact hne hgg.2.1
theorem QRow.form (h : QRow w base e size v n xs) : ∃ a c, v = .slice a n c := by
  rcases h.2 with ⟨rfl, rfl⟩ | ⟨g, off, cap, cur, rfl, _⟩
  · exact ⟨_, _, rfl⟩
  · exact ⟨_, _, rfl⟩
/-- where there is an element -/
theorem QRow.at (h : QRow w base e size v n xs) (hn : 0 < n) : ∃ g off cap, v = .slice (some ⟨g, off, none⟩) n cap ∧ base ≤ g ∧ g < w.heap.size ∧ n ≤ cap ∧ cap ≤ maxLen ∧ ∀ j u, xs[j]? = some u → w.cell? ⟨g, off + j, none⟩ = some u := by
  rcases h.2 with ⟨_, h0⟩ | ⟨g, off, cap, cur, rfl, hb, hgg, h1, h2, h3, h4⟩
  · omega
  · refine ⟨g, off, cap, rfl, hb, (Array.getElem?_eq_some_iff.1 hgg).1, h1, h2, fun j u hu => ?_⟩
    rw [cell_of_row w g (off + j) cur e (0, 0) hgg]
    rw [← h4, List.getElem?_take] at hu
    split at hu
    · rw [List.getElem?_drop] at hu
      simpa using hu
    · cases hu
/-- without its first element -/
theorem QRow.tail {g off cap : Nat} (h : QRow w base e size (.slice (some ⟨g, off, none⟩) (n + 1) cap) (n + 1) xs) :
    (cap = 1 → QRow w base e size (.slice (some ⟨g, off, none⟩) n 0) n (xs.drop size)) ∧ (cap ≠ 1 → QRow w base e size (.slice (some ⟨g, off + size, none⟩) n (cap - 1)) n (xs.drop size)) := by
  rcases h.2 with ⟨_, h0⟩ | ⟨g', off', cap', cur, e1, hb, hgg, h1, h2, h3, h4⟩
  · omega
  · simp only [Value.slice.injEq, Option.some.injEq, Addr.mk.injEq] at e1
    obtain ⟨⟨rfl, rfl, _⟩, _, rfl⟩ := e1
    have hl : (xs.drop size).length = n * size := by rw [List.length_drop, h.1, Nat.add_mul]; omega
    constructor
    · intro hc
      subst hc
      obtain rfl : n = 0 := by omega
      have hx : xs.drop size = [] := List.eq_nil_of_length_eq_zero (by rw [hl]; omega)
      rw [hx]
      exact ⟨by simp, .inr ⟨g, off, 0, cur, rfl, hb, hgg, Nat.le_refl _, by decide, by omega, by simp⟩⟩
    · intro hc
      obtain ⟨d, rfl⟩ : ∃ d, cap = d + 1 := ⟨cap - 1, by omega⟩
      have h3' : off + size + d * size ≤ cur.size := by rw [Nat.add_mul] at h3; omega
      refine ⟨hl, .inr ⟨g, off + size, d, cur, rfl, hb, hgg, by omega, by omega, h3', ?_⟩⟩
      rw [← h4, List.drop_take, List.drop_drop, Nat.add_mul]
      congr 1
      omega
end
section
variable {P : Program} {w : World} {o : Oper} {a : Act} {Q : Exit → Act → World → Prop} {base : Nat} {e t : TypeId} {z : Value} {size bytes : Nat} {v : Value} {n m : Nat} {xs news : List Value}
/-- what is appended lies in the old block or in a new one -/
structure AppQ (w w' : World) (base : Nat) (e : TypeId) (size : Nat) (v v' : Value) (n : Nat) (xs : List Value) : Prop where
  own : QRow w' base e size v' n xs
  grown : w.grownBy w' v.ownBlock
  lies : v'.ownBlock = v.ownBlock ∨ v'.ownBlock = some w.heap.size
theorem run_app_q (ty : TypeId) (hi : (P.info? e).map (fun i => (i.zero, i.size, i.bytes)) = some (some z, size, bytes)) (ht : P.underlying t = some (.slice e)) (hzs : z.cells.size = size) (hsz : 0 < size) (hby : bytes ≤ 64) (hown : QRow w base e size v n xs)
    {ad : Addr} {c : Nat} (hc : ∀ j u, news[j]? = some u → w.cell? (ad.add j) = some u) (hl : news.length = m * size) (h1 : ∀ u ∈ news, u.oneCell' = true) (hn : n + m ≤ 1000000) (hbase : base ≤ w.heap.size) :
    ∃ v' w', (Builtin.append_ #[t, t] ty #[v, .slice (some ad) m c]).run P w = .ok v' w' ∧ AppQ w w' base e size v v' (n + m) (xs ++ news) := by
  obtain ⟨i0, hi, hz0, hz1, hz2⟩ := info_parts hi
  have hb : (n + m) * bytes ≤ 1000000 * 64 := Nat.mul_le_mul hn hby
  have hlen : (xs ++ news).length = (n + m) * size := by rw [List.length_append, hown.1, hl, Nat.add_mul]
  rcases hown.2 with ⟨rfl, rfl⟩ | ⟨g, off, cap, cur, rfl, hbg, hg, hnc, hcm, hcs, htake⟩
  · have hx : xs = [] := List.eq_nil_of_length_eq_zero (by simpa using hown.1)
    subst hx
    obtain ⟨v', w', hr, h2, h3, _, h5⟩ := run_append_own_at (P := P) w base t ty e i0 z size bytes ht hi hz0 hz1 hz2 hzs hsz _ 0 [] (World.ownsRow_nil w base e size) ad m c news hl hc h1 (by unfold maxLen; omega) (by omega) hbase
    exact ⟨v', w', hr, QRow.of h2, h3, h5⟩
  · by_cases hroom : n + m ≤ cap
    · have hfit : off + n * size + news.length ≤ cur.size := by
        have : (n + m) * size ≤ cap * size := Nat.mul_le_mul_right _ hroom
        rw [Nat.add_mul] at this
        omega
      have hf := run_firstCells_some (P := P) w size m ad m c news hl hc
      have hst := run_storeCells_at P g (off + n * size) e news 0 cur w hg (by simpa using hfit) h1
      simp only [Nat.add_zero] at hst
      have hr : (Builtin.append_ #[t, t] ty #[.slice (some ⟨g, off, none⟩) n cap, .slice (some ad) m c]).run P w =
          .ok (.slice (some ⟨g, off, none⟩) (n + m) cap) (w.setRow g (cur.toList.take (off + n * size) ++ news ++ cur.toList.drop (off + n * size + news.length)).toArray) := by
        simp [Builtin.append_, run_underlying ht, sizeOf, typeInfo, hi, hz1, Builtin.lenOf, hroom, hf, Addr.add_lit, hst]
      refine ⟨_, _, hr, ⟨⟨hlen, .inr ⟨g, off, cap, _, rfl, hbg, setRow_heap w g cur _ e _ hg, hroom, hcm, ?_, ?_⟩⟩, ⟨rfl, rfl, rfl, by simp, fun k _ hk => setRow_other w g k _ (fun e => hk (by simp [Value.ownBlock, e]))⟩, .inl rfl⟩⟩
      · simp only [List.size_toArray, List.length_append, List.length_take, List.length_drop, Array.length_toList]
        omega
      · have h5 : (cur.toList.take (off + n * size)).drop off = xs := by rw [List.drop_take, show off + n * size - off = n * size by omega]; exact htake
        have h6 : off ≤ (cur.toList.take (off + n * size)).length := by rw [List.length_take, Array.length_toList]; omega
        rw [List.append_assoc, List.drop_append_of_le_length h6, h5, ← List.append_assoc, ← hlen]
        exact List.take_left
    · have holds : ∀ j u, xs[j]? = some u → w.cell? ((⟨g, off, none⟩ : Addr).add j) = some u := fun j u hu => by
        have hn0 : 0 < n := by
          rcases Nat.eq_zero_or_pos n with h0 | h0
          · subst h0
            have := hown.1
            rw [Nat.zero_mul] at this
            rw [List.eq_nil_of_length_eq_zero this] at hu
            cases hu
          · exact h0
        obtain ⟨g', off', cap', e1, _, _, _, _, h5⟩ := hown.at hn0
        simp only [Value.slice.injEq, Option.some.injEq, Addr.mk.injEq] at e1
        obtain ⟨⟨rfl, rfl, _⟩, _, _⟩ := e1
        rw [Addr.add_lit]
        exact h5 j u hu
      have hr := run_append_grow (P := P) w t ty e i0 z ht hi hz0 ⟨g, off, none⟩ n cap xs (by rw [hz1]; exact hown.1) holds ad m c news (by rw [hz1]; exact hl) hc (by omega) (by omega) (growslice_fits (by omega) (by rw [hz2]; omega))
      have hge := grownCap_ge w (n + m) cap e
      have hcm' : grownCap w (n + m) cap e ≤ maxLen := grownCap_le_maxLen w (n + m) cap e (by unfold maxLen; omega)
      refine ⟨_, _, hr, ⟨QRow.of ⟨hlen, .inr ⟨w.heap.size, _, _, rfl, hbase, heap_alloc_new w.drew _, hge, hcm', ?_, ?_⟩⟩, ⟨rfl, rfl, rfl, by simp, fun k hk _ => heap_alloc_old w.drew _ hk⟩, .inr rfl⟩⟩
      · simp only [Array.size_append, List.size_toArray, size_zeroCells, hzs, hown.1, hl, ← Nat.add_mul]
        congr 1
        omega
      · simp only [Array.toList_append, List.append_assoc]
        rw [← List.append_assoc, ← hlen]
        exact List.take_left
theorem wp_app_q {K : Act → World → Prop} (s x : Operand) (ho : o.op = .call { callee := .builtin .append, args := #[s, x], argTypes := #[t, t] }) (hi : (P.info? e).map (fun i => (i.zero, i.size, i.bytes)) = some (some z, size, bytes)) (ht : P.underlying t = some (.slice e)) (hzs : z.cells.size = size) (hsz : 0 < size) (hby : bytes ≤ 64) (hs : a.eval s = v) (hown : QRow w base e size v n xs)
    {ad : Addr} {c : Nat} (hx : a.eval x = .slice (some ad) m c) (hc : ∀ j u, news[j]? = some u → w.cell? (ad.add j) = some u) (hl : news.length = m * size) (h1 : ∀ u ∈ news, u.oneCell' = true) (hn : n + m ≤ 1000000) (hbase : base ≤ w.heap.size)
    (h : ∀ v' w', AppQ w w' base e size v v' (n + m) (xs ++ news) → K (a.put o.dst v') w') : o.wp P a w K Q := by
  obtain ⟨v', w', hr, hA⟩ := run_app_q o.type hi ht hzs hsz hby hown hc hl h1 hn hbase
  unfold Oper.wp execOp
  simp only [ho, resolve, invoke, builtin, Sem.run_bind, Sem.run_pure, Result.andThen_ok, List.map_toArray, List.map_cons, List.map_nil, hs, hx]
  rw [hr]
  exact h v' w' hA
theorem wpList_app_q {ops : Array Oper} {rest : List Oper} (hgd : o.guard = none) (s x : Operand) (ho : o.op = .call { callee := .builtin .append, args := #[s, x], argTypes := #[t, t] }) (hi : (P.info? e).map (fun i => (i.zero, i.size, i.bytes)) = some (some z, size, bytes)) (ht : P.underlying t = some (.slice e)) (hzs : z.cells.size = size) (hsz : 0 < size) (hby : bytes ≤ 64) (hs : a.eval s = v) (hown : QRow w base e size v n xs)
    {ad : Addr} {c : Nat} (hx : a.eval x = .slice (some ad) m c) (hc : ∀ j u, news[j]? = some u → w.cell? (ad.add j) = some u) (hl : news.length = m * size) (h1 : ∀ u ∈ news, u.oneCell' = true) (hn : n + m ≤ 1000000) (hbase : base ≤ w.heap.size)
    (h : ∀ v' w', AppQ w w' base e size v v' (n + m) (xs ++ news) → wpList P ops Q rest (a.put o.dst v') w') : wpList P ops Q (o :: rest) a w :=
  wpList_plain hgd fun _ hK => wp_app_q s x ho hi ht hzs hsz hby hs hown hx hc hl h1 hn hbase fun v' w' hA => hK _ _ (h v' w' hA)
end
end Go.Proofs.YtnjjbaodfjmiaaaGreat

/- Live states of a machine: which are reached, which are alive; rows of truths that grow by rounds until nothing turns. Of no program. -/
namespace Go.Proofs.YtnjjbaodfjmiaaaGreat

/-- place i of a row of truths -/
def On (S : List Bool) (i : Nat) : Prop := S.getD i false = true
instance (S : List Bool) (i : Nat) : Decidable (On S i) := inferInstanceAs (Decidable (_ = true))
theorem On.lt {S : List Bool} {i : Nat} (h : On S i) : i < S.length := by
  by_cases e : i < S.length
  · exact e
  · unfold On at h
    rw [List.getD_eq_getElem?_getD, List.getElem?_eq_none (by omega)] at h
    simp at h
theorem on_set {S : List Bool} {i : Nat} (hi : i < S.length) (j : Nat) : On (S.set i true) j ↔ On S j ∨ j = i := by
  unfold On
  rw [List.getD_eq_getElem?_getD, List.getD_eq_getElem?_getD, List.getElem?_set]
  by_cases e : i = j
  · subst e
    simp [hi]
  · rw [if_neg e]
    constructor
    · exact fun h => .inl h
    · rintro (h | h)
      · exact h
      · exact absurd h.symm e
theorem on_ext : ∀ {S T : List Bool}, S.length = T.length → (∀ i, On S i ↔ On T i) → S = T
  | [], [], _, _ => rfl
  | [], _ :: _, h, _ => by simp at h
  | _ :: _, [], h, _ => by simp at h
  | a :: S, b :: T, h, k => by
    have h0 := k 0
    have e : S = T := on_ext (by simpa using h) fun i => by
      have := k (i + 1)
      simpa [On] using this
    subst e
    congr 1
    cases a <;> cases b <;> simp_all [On]
theorem on_none (n i : Nat) : ¬ On (List.replicate n false) i := by
  unfold On
  rw [List.getD_eq_getElem?_getD, List.getElem?_replicate]
  split <;> simp
/-- how many are on -/
def onN (S : List Bool) : Nat := S.count true
theorem onN_le (S : List Bool) : onN S ≤ S.length := List.count_le_length
theorem onN_lt : ∀ {S T : List Bool}, S.length = T.length → (∀ i, On S i → On T i) → S ≠ T → onN S < onN T := by
  have le : ∀ {S T : List Bool}, S.length = T.length → (∀ i, On S i → On T i) → onN S ≤ onN T := by
    intro S
    induction S with
    | nil => intro T h _; cases T with
      | nil => exact Nat.le_refl _
      | cons b T => simp at h
    | cons a S ih =>
      intro T h k
      cases T with
      | nil => simp at h
      | cons b T =>
        have h1 := ih (T := T) (by simpa using h) fun i hi => by
          have := k (i + 1)
          simp only [On, List.getD_cons_succ] at this
          exact this hi
        have h0 := k 0
        unfold onN at *
        cases a <;> cases b <;> simp_all [On] <;> omega
  intro S
  induction S with
  | nil => intro T h _ e; cases T with
    | nil => exact absurd rfl e
    | cons b T => simp at h
  | cons a S ih =>
    intro T h k e
    cases T with
    | nil => simp at h
    | cons b T =>
      have hk : ∀ i, On S i → On T i := fun i hi => by
        have := k (i + 1)
        simp only [On, List.getD_cons_succ] at this
        exact this hi
      have hl : S.length = T.length := by simpa using h
      have h0 := k 0
      have h1 := le hl hk
      by_cases es : S = T
      · subst es
        unfold onN at *
        cases a <;> cases b <;> simp_all [On]
      · have h2 := ih hl hk es
        clear ih hk k le e es
        unfold onN at *
        cases a <;> cases b <;> simp_all [On] <;> omega
/-- f, n times -/
def iterL (f : List Bool → List Bool) (S : List Bool) : Nat → List Bool
  | 0 => S
  | n + 1 => f (iterL f S n)
section
variable {f : List Bool → List Bool} (hl : ∀ S, (f S).length = S.length) (hm : ∀ S i, On S i → On (f S) i)
include hl
theorem iter_len (S : List Bool) : ∀ n, (iterL f S n).length = S.length
  | 0 => rfl
  | n + 1 => (hl _).trans (iter_len S n)
omit hl in
include hm in
theorem iter_mono (S : List Bool) {i : Nat} (h : On S i) : ∀ n, On (iterL f S n) i
  | 0 => h
  | n + 1 => hm _ i (iter_mono S h n)
include hm
theorem iter_or (S : List Bool) : ∀ n, f (iterL f S n) = iterL f S n ∨ n + 1 + onN S ≤ onN (f (iterL f S n))
  | 0 => by
    by_cases e : f S = S
    · exact .inl e
    · have := onN_lt (hl S).symm (hm S) (Ne.symm e)
      exact .inr (by show 0 + 1 + onN S ≤ onN (f S); omega)
  | n + 1 => by
    rcases iter_or S n with h | h
    · left
      show f (f (iterL f S n)) = f (iterL f S n)
      rw [h, h]
    · by_cases e : f (f (iterL f S n)) = f (iterL f S n)
      · exact .inl e
      · have := onN_lt (hl _).symm (hm (f (iterL f S n))) (Ne.symm e)
        exact .inr (by show n + 1 + 1 + onN S ≤ onN (f (f (iterL f S n))); omega)
theorem iter_fix (S : List Bool) {n : Nat} (h : S.length < n + 1 + onN S) : f (iterL f S n) = iterL f S n := by
  rcases iter_or hl hm S n with e | e
  · exact e
  · have := onN_le (f (iterL f S n))
    rw [hl, iter_len hl S n] at this
    omega
end

/-- a cell of a row of a machine -/
def toD (D : DfaM) (i c : Nat) : Int := (D.next.getD i []).getD c 0
/-- state j comes behind state i -/
def Edge (D : DfaM) (i j : Nat) : Prop := ∃ c, c < D.width.toNat ∧ toD D i c = (j : Int)
/-- states that words lead to; states from which words lead to labels -/
inductive Rch (D : DfaM) : Nat → Prop
  | zero : Rch D 0
  | step {i j : Nat} : Rch D i → Edge D i j → Rch D j
inductive Alv (D : DfaM) : Nat → Prop
  | here {i : Nat} : 0 ≤ D.label.getD i 0 → Alv D i
  | step {i j : Nat} : Edge D i j → Alv D j → Alv D i
theorem to_in {D : DfaM} (h : rightD D = true) {i c : Nat} (hi : i < D.next.length) (hc : c < D.width.toNat) : -1 ≤ toD D i c ∧ toD D i c < D.next.length := by
  obtain ⟨_, _, _, _, h5⟩ := rightD_spec h
  obtain ⟨h6, _, h7⟩ := h5 i hi
  exact h7 _ (getD_mem (by omega))
theorem Edge.lt {D : DfaM} (h : rightD D = true) {i j : Nat} (hi : i < D.next.length) (he : Edge D i j) : j < D.next.length := by
  obtain ⟨c, hc, e⟩ := he
  have := to_in h hi hc
  omega
theorem Rch.lt {D : DfaM} (h : rightD D = true) {i : Nat} (hr : Rch D i) : i < D.next.length := by
  induction hr with
  | zero => have := (rightD_spec h).2.2.1; omega
  | step _ he ih => exact he.lt h ih

/-- number x's state is on -/
def setI (S : List Bool) (x : Int) : List Bool := if 0 ≤ x then S.set x.toNat true else S
theorem setI_len (S : List Bool) (x : Int) : (setI S x).length = S.length := by unfold setI; split <;> simp
theorem on_setI {S : List Bool} {x : Int} (h : x < S.length) (j : Nat) : On (setI S x) j ↔ On S j ∨ x = j := by
  unfold setI
  by_cases h0 : 0 ≤ x
  · rw [if_pos h0, on_set (by omega)]
    constructor
    · rintro (h | h)
      · exact .inl h
      · exact .inr (by omega)
    · rintro (h | h)
      · exact .inl h
      · exact .inr (by omega)
  · rw [if_neg h0]
    constructor
    · exact fun h => .inl h
    · rintro (h | h)
      · exact h
      · omega
/-- what state i leads to by the first c classes is on -/
def rchC (D : DfaM) (i : Nat) (S : List Bool) : Nat → List Bool
  | 0 => S
  | c + 1 => setI (rchC D i S c) (toD D i c)
/-- behind i states of a round -/
def rchI (D : DfaM) (S : List Bool) : Nat → List Bool
  | 0 => S
  | i + 1 => if On (rchI D S i) i then rchC D i (rchI D S i) D.width.toNat else rchI D S i
/-- behind k rounds -/
def rchN (D : DfaM) (k : Nat) : List Bool := iterL (fun S => rchI D S D.next.length) ((List.replicate D.next.length false).set 0 true) k
def reachedL (D : DfaM) : List Bool := if rightD D = true then rchN D D.next.length else []
section
variable {D : DfaM}
theorem rchC_len (i : Nat) (S : List Bool) : ∀ c, (rchC D i S c).length = S.length
  | 0 => rfl
  | c + 1 => (setI_len _ _).trans (rchC_len i S c)
theorem on_rchC (hR : rightD D = true) {i : Nat} (hi : i < D.next.length) {S : List Bool} (hS : S.length = D.next.length) : ∀ c, c ≤ D.width.toNat → ∀ j, On (rchC D i S c) j ↔ On S j ∨ ∃ d, d < c ∧ toD D i d = j
  | 0, _, j => ⟨.inl, fun h => h.elim id fun ⟨d, hd, _⟩ => absurd hd (Nat.not_lt_zero d)⟩
  | c + 1, hc, j => by
    have ih := on_rchC hR hi hS c (by omega) j
    have hin := to_in hR hi (show c < D.width.toNat by omega)
    show On (setI (rchC D i S c) (toD D i c)) j ↔ _
    rw [on_setI (by rw [rchC_len, hS]; exact hin.2), ih]
    constructor
    · rintro ((h | ⟨d, hd, h⟩) | h)
      · exact .inl h
      · exact .inr ⟨d, by omega, h⟩
      · exact .inr ⟨c, by omega, h⟩
    · rintro (h | ⟨d, hd, h⟩)
      · exact .inl (.inl h)
      · by_cases e : d = c
        · subst e; exact .inr h
        · exact .inl (.inr ⟨d, by omega, h⟩)
theorem rchI_len (S : List Bool) : ∀ i, (rchI D S i).length = S.length
  | 0 => rfl
  | i + 1 => by
    unfold rchI
    split
    · rw [rchC_len]; exact rchI_len S i
    · exact rchI_len S i
theorem rchI_one (hR : rightD D = true) {S : List Bool} (hS : S.length = D.next.length) {i : Nat} (hi : i < D.next.length) (j : Nat) : On (rchI D S (i + 1)) j ↔ On (rchI D S i) j ∨ (On (rchI D S i) i ∧ Edge D i j) := by
  show On (if _ then _ else _) j ↔ _
  split
  · rename_i h
    rw [on_rchC hR hi ((rchI_len S i).trans hS) _ (Nat.le_refl _)]
    constructor
    · rintro (k | ⟨d, hd, k⟩)
      · exact .inl k
      · exact .inr ⟨h, d, hd, k⟩
    · rintro (k | ⟨_, d, hd, k⟩)
      · exact .inl k
      · exact .inr ⟨d, hd, k⟩
  · rename_i h
    exact ⟨.inl, fun k => k.elim id fun k => absurd k.1 h⟩
theorem rchI_mono (hR : rightD D = true) {S : List Bool} (hS : S.length = D.next.length) {j : Nat} {a : Nat} (h : On (rchI D S a) j) : ∀ b, a ≤ b → b ≤ D.next.length → On (rchI D S b) j
  | 0, h1, _ => by obtain rfl : a = 0 := by omega
                   exact h
  | b + 1, h1, h2 => by
    by_cases e : a = b + 1
    · subst e; exact h
    · exact (rchI_one hR hS (by omega) j).2 (.inl (rchI_mono hR hS h b (by omega) (by omega)))
theorem rchI_sound (hR : rightD D = true) {S : List Bool} (hS : S.length = D.next.length) {P : Nat → Prop} (h0 : ∀ j, On S j → P j) (h1 : ∀ i j, P i → Edge D i j → P j) : ∀ i, i ≤ D.next.length → ∀ j, On (rchI D S i) j → P j
  | 0, _, j, h => h0 j h
  | i + 1, hi, j, h => by
    have ih := rchI_sound hR hS h0 h1 i (by omega)
    rcases (rchI_one hR hS (by omega) j).1 h with h | ⟨h, he⟩
    · exact ih j h
    · exact h1 i j (ih i h) he
end
/-- one round, of rows of the machine's length; nothing of others -/
def rchF (D : DfaM) (S : List Bool) : List Bool := if S.length = D.next.length then rchI D S D.next.length else S
theorem iter_congr {f g : List Bool → List Bool} {S : List Bool} {n : Nat} (hl : ∀ S, (f S).length = S.length) (h : ∀ T, T.length = S.length → f T = g T) : iterL f S n = iterL g S n := by
  induction n with
  | zero => rfl
  | succ n ih =>
    show f (iterL f S n) = g (iterL g S n)
    rw [← ih, h _ (iter_len hl S n)]
theorem start_len (n : Nat) : ((List.replicate n false).set 0 true).length = n := by simp
theorem on_start {n : Nat} (hn : 0 < n) (j : Nat) : On ((List.replicate n false).set 0 true) j ↔ j = 0 := by
  rw [on_set (by simpa using hn)]
  constructor
  · rintro (h | h)
    · exact absurd h (on_none n j)
    · exact h
  · exact .inr
theorem onN_start {n : Nat} (hn : 0 < n) : 1 ≤ onN ((List.replicate n false).set 0 true) := by
  obtain ⟨m, rfl⟩ : ∃ m, n = m + 1 := ⟨n - 1, by omega⟩
  simp [onN, List.replicate_succ]
/-- the row that comes out says of each state whether it is reached -/
theorem reached_len {D : DfaM} (hR : rightD D = true) : (reachedL D).length = D.next.length := by
  unfold reachedL
  rw [if_pos hR]
  unfold rchN
  rw [iter_len (fun S => rchI_len S _), start_len]
theorem reached_iff {D : DfaM} (hR : rightD D = true) (i : Nat) : On (reachedL D) i ↔ Rch D i := by
  have hn : 0 < D.next.length := by have := (rightD_spec hR).2.2.1; omega
  unfold reachedL
  rw [if_pos hR]
  have hS := start_len D.next.length
  have he : rchN D D.next.length = iterL (rchF D) ((List.replicate D.next.length false).set 0 true) D.next.length := by
    refine iter_congr (fun S => rchI_len S _) fun T hT => ?_
    unfold rchF
    rw [if_pos (hT.trans hS)]
  have hl : ∀ S, (rchF D S).length = S.length := fun S => by
    unfold rchF
    split
    · exact rchI_len S _
    · rfl
  have hm : ∀ S i, On S i → On (rchF D S) i := fun S i h => by
    unfold rchF
    split
    · rename_i e
      exact rchI_mono hR e (a := 0) h _ (Nat.zero_le _) (Nat.le_refl _)
    · exact h
  have hf := iter_fix hl hm ((List.replicate D.next.length false).set 0 true) (n := D.next.length) (by have := onN_start hn; omega)
  have hlen := iter_len hl ((List.replicate D.next.length false).set 0 true) D.next.length
  rw [he]
  constructor
  · have : ∀ n j, On (iterL (rchF D) ((List.replicate D.next.length false).set 0 true) n) j → Rch D j := by
      intro n
      induction n with
      | zero => intro j h; rw [(on_start hn j).1 h]; exact .zero
      | succ n ih =>
        intro j h
        have hl2 := (iter_len hl ((List.replicate D.next.length false).set 0 true) n).trans hS
        have h' : On (rchF D (iterL (rchF D) ((List.replicate D.next.length false).set 0 true) n)) j := h
        unfold rchF at h'
        rw [if_pos (by exact hl2)] at h'
        exact rchI_sound hR hl2 ih (fun a b ha hab => .step ha hab) _ (Nat.le_refl _) j h'
    exact this _ i
  · intro h
    induction h with
    | zero => exact iter_mono hm _ ((on_start hn 0).2 rfl) _
    | @step a b ha he ih =>
      rw [← hf]
      unfold rchF
      have hl2 := hlen.trans hS
      rw [if_pos (by exact hl2)]
      have hal := ha.lt hR
      have h1 : On (rchI D (iterL (rchF D) ((List.replicate D.next.length false).set 0 true) D.next.length) a) a := rchI_mono hR hl2 (a := 0) ih a (Nat.zero_le _) (by omega)
      exact rchI_mono hR hl2 ((rchI_one hR hl2 hal b).2 (.inr ⟨h1, he⟩)) _ (by omega) (Nat.le_refl _)

/-- state i is on if one that it leads to by the first c classes is -/
def alvC (D : DfaM) (i : Nat) (S : List Bool) : Nat → List Bool
  | 0 => S
  | c + 1 => if 0 ≤ toD D i c ∧ On (alvC D i S c) (toD D i c).toNat then (alvC D i S c).set i true else alvC D i S c
def alvL (D : DfaM) (i : Nat) (S : List Bool) : List Bool := if 0 ≤ D.label.getD i 0 then S.set i true else S
/-- behind i states of a round -/
def alvI (D : DfaM) (S : List Bool) : Nat → List Bool
  | 0 => S
  | i + 1 => alvC D i (alvL D i (alvI D S i)) D.width.toNat
def alvN (D : DfaM) (k : Nat) : List Bool := iterL (fun S => alvI D S D.next.length) (List.replicate D.next.length false) k
def aliveL (D : DfaM) : List Bool := if rightD D = true then alvN D (D.next.length + 1) else []
section
variable {D : DfaM}
theorem alvC_len (i : Nat) (S : List Bool) : ∀ c, (alvC D i S c).length = S.length
  | 0 => rfl
  | c + 1 => by
    unfold alvC
    split
    · rw [List.length_set]; exact alvC_len i S c
    · exact alvC_len i S c
theorem alvL_len (i : Nat) (S : List Bool) : (alvL D i S).length = S.length := by unfold alvL; split <;> simp
theorem alvI_len (S : List Bool) : ∀ i, (alvI D S i).length = S.length
  | 0 => rfl
  | i + 1 => by
    show (alvC D i (alvL D i (alvI D S i)) _).length = _
    rw [alvC_len, alvL_len]; exact alvI_len S i
theorem alvC_mono {i : Nat} {S : List Bool} (hi : i < S.length) {j : Nat} {a : Nat} (h : On (alvC D i S a) j) : ∀ b, a ≤ b → On (alvC D i S b) j
  | 0, h1 => by obtain rfl : a = 0 := by omega
                exact h
  | b + 1, h1 => by
    by_cases e : a = b + 1
    · subst e; exact h
    · have ih := alvC_mono hi h b (by omega)
      unfold alvC
      split
      · exact (on_set (by rw [alvC_len]; exact hi) j).2 (.inl ih)
      · exact ih
theorem alvC_sound {i : Nat} {S : List Bool} (hi : i < S.length) {P : Nat → Prop} (h0 : ∀ j, On S j → P j) (h1 : ∀ a b, Edge D a b → P b → P a) : ∀ c, c ≤ D.width.toNat → ∀ j, On (alvC D i S c) j → P j
  | 0, _, j, h => h0 j h
  | c + 1, hc, j, h => by
    have ih := alvC_sound hi h0 h1 c (by omega)
    unfold alvC at h
    split at h
    · rename_i k
      rcases (on_set (by rw [alvC_len]; exact hi) j).1 h with h | h
      · exact ih j h
      · subst h
        exact h1 j _ ⟨c, by omega, by omega⟩ (ih _ k.2)
    · exact ih j h
theorem on_alvL {i : Nat} {S : List Bool} (hi : i < S.length) (j : Nat) : On (alvL D i S) j ↔ On S j ∨ (j = i ∧ 0 ≤ D.label.getD i 0) := by
  unfold alvL
  split
  · rename_i h
    rw [on_set hi]
    constructor
    · rintro (k | k)
      · exact .inl k
      · exact .inr ⟨k, h⟩
    · rintro (k | k)
      · exact .inl k
      · exact .inr k.1
  · rename_i h
    exact ⟨.inl, fun k => k.elim id fun k => absurd k.2 h⟩
theorem alvI_mono {S : List Bool} (hS : S.length = D.next.length) {j : Nat} {a : Nat} (h : On (alvI D S a) j) : ∀ b, a ≤ b → b ≤ D.next.length → On (alvI D S b) j
  | 0, h1, _ => by obtain rfl : a = 0 := by omega
                   exact h
  | b + 1, h1, h2 => by
    by_cases e : a = b + 1
    · subst e; exact h
    · have ih := alvI_mono hS h b (by omega) (by omega)
      have hi : b < (alvI D S b).length := by rw [alvI_len, hS]; omega
      exact alvC_mono (S := alvL D b (alvI D S b)) (by rw [alvL_len]; exact hi) (a := 0) ((on_alvL hi j).2 (.inl ih)) _ (Nat.zero_le _)
theorem alvI_sound {S : List Bool} (hS : S.length = D.next.length) {P : Nat → Prop} (h0 : ∀ j, On S j → P j) (h1 : ∀ a b, Edge D a b → P b → P a) (h2 : ∀ a, 0 ≤ D.label.getD a 0 → P a) : ∀ i, i ≤ D.next.length → ∀ j, On (alvI D S i) j → P j
  | 0, _, j, h => h0 j h
  | i + 1, hi, j, h => by
    have ih := alvI_sound hS h0 h1 h2 i (by omega)
    have hl : i < (alvI D S i).length := by rw [alvI_len, hS]; omega
    refine alvC_sound (S := alvL D i (alvI D S i)) (by rw [alvL_len]; exact hl) (fun j hj => ?_) h1 _ (Nat.le_refl _) j h
    rcases (on_alvL hl j).1 hj with hj | ⟨rfl, hj⟩
    · exact ih j hj
    · exact h2 _ hj
/-- a row that a round leaves as it is holds all that is alive -/
theorem alv_closed (hR : rightD D = true) {S : List Bool} (hS : S.length = D.next.length) (hf : alvI D S D.next.length = S) {i : Nat} (hi : i < D.next.length) (ha : Alv D i) : On S i := by
  have hin : ∀ k, k ≤ D.next.length → ∀ j, On (alvI D S k) j → On S j := fun k hk j h => by
    have := alvI_mono hS h D.next.length hk (Nat.le_refl _)
    rwa [hf] at this
  induction ha with
  | @here a h =>
    have hl : a < (alvI D S a).length := by rw [alvI_len, hS]; omega
    refine hin (a + 1) (by omega) a ?_
    exact alvC_mono (S := alvL D a (alvI D S a)) (by rw [alvL_len]; exact hl) (a := 0) ((on_alvL hl a).2 (.inr ⟨rfl, h⟩)) _ (Nat.zero_le _)
  | @step a b he hb ih =>
    have hbl := he.lt hR hi
    have hob := ih hbl
    obtain ⟨c, hc, e⟩ := he
    have hl : a < (alvI D S a).length := by rw [alvI_len, hS]; omega
    have hla : a < (alvL D a (alvI D S a)).length := by rw [alvL_len]; exact hl
    have h1 : On (alvI D S a) b := alvI_mono hS (a := 0) hob a (Nat.zero_le _) (by omega)
    have h2 : On (alvC D a (alvL D a (alvI D S a)) c) b := alvC_mono (S := alvL D a (alvI D S a)) hla (a := 0) ((on_alvL hl b).2 (.inl h1)) _ (Nat.zero_le _)
    refine hin (a + 1) (by omega) a ?_
    refine alvC_mono (S := alvL D a (alvI D S a)) hla (a := c + 1) ?_ _ (by omega)
    show On (if _ then _ else _) a
    rw [if_pos ⟨by omega, by rw [e]; simpa using h2⟩]
    exact (on_set (by rw [alvC_len]; exact hla) a).2 (.inr rfl)
end
theorem alive_len {D : DfaM} (hR : rightD D = true) : (aliveL D).length = D.next.length := by
  unfold aliveL
  rw [if_pos hR]
  unfold alvN
  rw [iter_len (fun S => alvI_len S _), List.length_replicate]
def alvF (D : DfaM) (S : List Bool) : List Bool := if S.length = D.next.length then alvI D S D.next.length else S
/-- the row that comes out says of each state whether it is alive -/
theorem alive_iff {D : DfaM} (hR : rightD D = true) {i : Nat} (hi : i < D.next.length) : On (aliveL D) i ↔ Alv D i := by
  unfold aliveL
  rw [if_pos hR]
  have hS : (List.replicate D.next.length false).length = D.next.length := List.length_replicate
  have he : alvN D (D.next.length + 1) = iterL (alvF D) (List.replicate D.next.length false) (D.next.length + 1) := by
    refine iter_congr (fun S => alvI_len S _) fun T hT => ?_
    unfold alvF
    rw [if_pos (hT.trans hS)]
  have hl : ∀ S, (alvF D S).length = S.length := fun S => by
    unfold alvF
    split
    · exact alvI_len S _
    · rfl
  have hm : ∀ S i, On S i → On (alvF D S) i := fun S i h => by
    unfold alvF
    split
    · rename_i e
      exact alvI_mono e (a := 0) h _ (Nat.zero_le _) (Nat.le_refl _)
    · exact h
  have hf := iter_fix hl hm (List.replicate D.next.length false) (n := D.next.length + 1) (by omega)
  have hlen := (iter_len hl (List.replicate D.next.length false) (D.next.length + 1)).trans hS
  rw [he]
  constructor
  · have : ∀ n j, On (iterL (alvF D) (List.replicate D.next.length false) n) j → Alv D j := by
      intro n
      induction n with
      | zero => intro j h; exact absurd h (on_none _ j)
      | succ n ih =>
        intro j h
        have hl2 := (iter_len hl (List.replicate D.next.length false) n).trans hS
        have h' : On (alvF D (iterL (alvF D) (List.replicate D.next.length false) n)) j := h
        unfold alvF at h'
        rw [if_pos (by exact hl2)] at h'
        exact alvI_sound hl2 ih (fun a b hab hb => .step hab hb) (fun a ha => .here ha) _ (Nat.le_refl _) j h'
    exact this _ i
  · intro h
    refine alv_closed hR hlen ?_ hi h
    have := hf
    unfold alvF at this
    rwa [if_pos (by exact hlen)] at this
end Go.Proofs.YtnjjbaodfjmiaaaGreat
