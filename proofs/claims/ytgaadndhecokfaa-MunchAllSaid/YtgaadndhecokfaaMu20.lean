/- MuRow, MuLex, MuPNext, KiEq, put together. -/
import Derived.Test.YtgaadndhecokfaaMu14
import Derived.Test.YtgaadndhecokfaaMu19
import Derived.Laws.StructEq
import Derived.Test.YtgaadndhecokfaaMu01
import Derived.ChangeKeysEq
import Derived.Handy
/- Pieces in memory: a slice that reads as pieces, a row of the call's own, one more; a piece by itself. -/
namespace Go.Proofs.Ytgaadndhecokfaa
open Go.RowKit Go.Lib Go.Joins

theorem txt_list (s : ByteArray) : txt s.data.toList = s := rfl
theorem txt_data (l : List UInt8) : (txt l).data.toList = l := by simp [txt]
theorem txt_inj {a b : List UInt8} (h : txt a = txt b) : a = b := by
  rw [← txt_data a, ← txt_data b, h]
theorem txt_add (a b : List UInt8) : txt a ++ txt b = txt (a ++ b) := by
  apply ByteArray.ext
  simp [txt]
theorem txt_extract (s : ByteArray) (a b : Nat) : s.extract a b = txt ((s.data.toList.take b).drop a) := by
  apply ByteArray.ext
  simp only [txt, ByteArray.data_extract]
  apply Array.ext'
  simp [List.drop_take, List.extract_eq_take_drop]
theorem data_yes {s : ByteArray} (h : s.size = 0) : s.data.toList = [] := by
  rw [← List.length_eq_zero_iff]
  exact h
theorem data_no {s : ByteArray} (h : s.size ≠ 0) : s.data.toList ≠ [] := fun e => by
  rw [← List.length_eq_zero_iff] at e
  exact h e
theorem part_list (s : ByteArray) (a b : Nat) : (s.extract a b).data.toList = (s.data.toList.drop a).take (b - a) := by
  simp [List.extract_eq_take_drop]
theorem list_len (s : ByteArray) : s.data.toList.length = s.size := by simp

/-- a piece: whose it is, its text -/
abbrev Pc := Int × ByteArray
def pcC (p : Pc) : List Value := [.int .i64 p.1, .string p.2]
theorem infoPc : (Try.prog.info? 33).map (fun i => (i.zero, i.size, i.bytes)) = some (some (.agg #[.int .i64 0, .string ⟨#[]⟩]), 2, 24) := by kernel_rfl
/-- slice value v reads as pieces, in a block below B -/
def RdP (B : Nat) (w : World) (v : Value) (l : List Pc) : Prop := ∃ a cap, v = .slice a l.length cap ∧ l.length ≤ cap ∧ cap ≤ maxLen ∧
  (0 < l.length → ∃ b off, a = some ⟨b, off, none⟩ ∧ b < B ∧ ∀ i, i < l.length → w.cell? ⟨b, off + i * 2, none⟩ = some (.int .i64 (l.getD i (0, ⟨#[]⟩)).1) ∧ w.cell? ⟨b, off + i * 2 + 1, none⟩ = some (.string (l.getD i (0, ⟨#[]⟩)).2))
section
variable {B B' : Nat} {w w' : World} {v : Value} {l : List Pc}
theorem RdP.form (h : RdP B w v l) : ∃ a cap, v = .slice a l.length cap ∧ l.length ≤ cap ∧ cap ≤ maxLen := by
  obtain ⟨a, cap, e, h1, h2, _⟩ := h
  exact ⟨a, cap, e, h1, h2⟩
theorem RdP.kept (h : RdP B w v l) (hk : ∀ k, k < B → w'.heap[k]? = w.heap[k]?) (hB : B ≤ B') : RdP B' w' v l := by
  obtain ⟨a, cap, e, h1, h2, h3⟩ := h
  refine ⟨a, cap, e, h1, h2, fun hp => ?_⟩
  obtain ⟨b, off, e1, hb, hc⟩ := h3 hp
  exact ⟨b, off, e1, by omega, fun i hi => ⟨(World.cell?_of_block (a := ⟨b, off + i * 2, none⟩) (hk b hb)).trans (hc i hi).1, (World.cell?_of_block (a := ⟨b, off + i * 2 + 1, none⟩) (hk b hb)).trans (hc i hi).2⟩⟩
theorem RdP.below (h : RdP B w v l) (hb : Below B w w') (hB : B ≤ B') : RdP B' w' v l := h.kept (fun k hk => hb.block k hk) hB
theorem RdP.at {a : Option Addr} {n c : Nat} (h : RdP B w (.slice a n c) l) (hb : Below B w w') (i : Nat) (hi : i < l.length) :
    ∃ b off, a = some ⟨b, off, none⟩ ∧ b < B ∧ w'.cell? ⟨b, off + i * 2, none⟩ = some (.int .i64 (l.getD i (0, ⟨#[]⟩)).1) ∧ w'.cell? ⟨b, off + i * 2 + 1, none⟩ = some (.string (l.getD i (0, ⟨#[]⟩)).2) := by
  obtain ⟨a', cap, e, _, _, h3⟩ := h.below hb (Nat.le_refl _)
  simp only [Value.slice.injEq] at e
  obtain ⟨rfl, _, _⟩ := e
  obtain ⟨b, off, e1, hb, hc⟩ := h3 (by omega)
  exact ⟨b, off, e1, hb, hc i hi⟩
end
/-- slice value v owns the pieces, in a block from base on -/
def RowP (w : World) (base : Nat) (v : Value) (l : List Pc) : Prop := w.ownsRow base 33 2 v l.length (l.flatMap pcC)
theorem flat_get (l : List Pc) : ∀ i, i < l.length → (l.flatMap pcC)[i * 2]? = some (.int .i64 (l.getD i (0, ⟨#[]⟩)).1) ∧ (l.flatMap pcC)[i * 2 + 1]? = some (.string (l.getD i (0, ⟨#[]⟩)).2) := by
  induction l with
  | nil => intro i hi; simp at hi
  | cons p r ih =>
    intro i hi
    cases i with
    | zero => exact ⟨rfl, rfl⟩
    | succ i =>
      obtain ⟨h1, h2⟩ := ih i (by simpa using hi)
      rw [show (i + 1) * 2 = i * 2 + 1 + 1 by omega]
      exact ⟨h1, h2⟩
section
variable {w w' : World} {base : Nat} {v : Value} {l : List Pc}
theorem RowP.nil (w : World) (base : Nat) : RowP w base (.slice none 0 0) [] := World.ownsRow_nil _ _ _ _
theorem RowP.lit (w : World) (base : Nat) (hb : base ≤ w.heap.size) : RowP (w.alloc (.cells #[] 33)) base (.slice (some ⟨w.heap.size, 0, none⟩) 0 0) [] :=
  World.ownsRow_lit (e := 33) (size := 2) w #[] 0 hb (by decide) rfl
theorem RowP.kept (h : RowP w base v l) (hb : Below w.heap.size w w') : RowP w' base v l :=
  World.ownsRow.kept (row := none) h ⟨hb.os, hb.tape, hb.output, hb.size, fun k hk _ => hb.block k hk⟩ (by cases v.ownBlock <;> simp)
theorem RowP.form (h : RowP w base v l) : ∃ a c, v = .slice a l.length c := by
  rcases h.2 with ⟨rfl, h0⟩ | ⟨g, cap, cur, rfl, _⟩
  · exact ⟨none, 0, by rw [h0]⟩
  · exact ⟨_, _, rfl⟩
theorem RowP.reads (h : RowP w base v l) : RdP w.heap.size w v l := by
  rcases h.2 with ⟨rfl, h0⟩ | ⟨g, cap, cur, rfl, hb, hgg, g1, g2, _⟩
  · exact ⟨none, 0, by rw [h0], by omega, by decide, fun h => by omega⟩
  · refine ⟨some ⟨g, 0, none⟩, cap, rfl, g1, g2, fun _ => ⟨g, 0, rfl, (Array.getElem?_eq_some_iff.1 hgg).1, fun i hi => ?_⟩⟩
    obtain ⟨q1, q2⟩ := flat_get l i hi
    exact ⟨by rw [Nat.zero_add, World.ownsRow.cellAt h (i * 2) (by omega)]; exact q1, by rw [Nat.zero_add, World.ownsRow.cellAt h (i * 2 + 1) (by omega)]; exact q2⟩
theorem RowP.lower {base' : Nat} (h : RowP w base v l) (hb : base' ≤ base) : RowP w base' v l := by
  refine ⟨h.1, ?_⟩
  rcases h.2 with hn | ⟨g, cap, cur, rfl, hb', rest⟩
  · exact .inl hn
  · exact .inr ⟨g, cap, cur, rfl, by omega, rest⟩
end
/-- one piece more -/
theorem app_pc {w : World} {ops : Array Oper} {rest : List Oper} {o : Oper} {a : Act} {Q : Exit → Act → World → Prop} (hgd : o.guard = none) (s x : Operand)
    (ho : o.op = .call { callee := .builtin .append, args := #[s, x], argTypes := #[34, 34] }) {base xb : Nat} {p : Pc} {v : Value} {l : List Pc}
    (hs : a.eval s = v) (hown : RowP w base v l) (hx : a.eval x = .slice (some ⟨xb, 0, none⟩) 1 1) (hxb : w.heap[xb]? = some (.cells #[.int .i64 p.1, .string p.2] 33 (0, 0))) {n : Nat} (hn : l.length = n) (hn2 : n ≤ 100000) (hb0 : base ≤ w.heap.size)
    (h : ∀ g' c' w', RowP w' base (.slice (some ⟨g', 0, none⟩) (n + 1) c') (l ++ [p]) → w.grownBy w' v.ownBlock → Below base w w' → wpList Try.prog ops Q rest (a.put o.dst (.slice (some ⟨g', 0, none⟩) (n + 1) c')) w') : wpList Try.prog ops Q (o :: rest) a w := by
  subst hn
  obtain ⟨i0, hi, hz0, hz1, hz2⟩ := info_parts infoPc
  refine wpList_append_own w hgd s x 34 ho base 33 i0 _ 2 24 Try.underlying34 hi hz0 hz1 hz2 rfl (by decide) _ l.length (l.flatMap pcC) hs hown ⟨xb, 0, none⟩ 1 1 (pcC p) hx rfl (fun j x hj => ?_) (fun x hx => by simp [pcC] at hx; rcases hx with rfl | rfl <;> rfl) (by unfold maxLen; omega) (by omega) hb0 fun v' w' h3 h4 _ => ?_
  · rw [Addr.add_lit, Nat.zero_add, cell_of_row w xb _ _ _ _ hxb]
    simpa [pcC] using hj
  · have hb : Below base w w' := (Below.refl base w).grown h4 hb0 fun k e => (hown.lt k e).1
    rcases ownsRow_forms h3 with ⟨_, h0⟩ | ⟨g, c, rfl⟩
    · omega
    · exact h g c w' (by unfold RowP; simpa using h3) h4 hb
def bys (s : ByteArray) : List Nat := s.data.toList.map UInt8.toNat
/-- a text's pieces -/
def pk (p : Int × List UInt8) : Pc := (p.1, txt p.2)
def cutS (D : DfaM) (s : ByteArray) : List Pc := if rightD D = true then (cutP D s.data.toList).map pk else []
def joinS (l : List Pc) : ByteArray := txt (l.flatMap fun p => p.2.data.toList)
def nxV (D : DfaM) (s : ByteArray) (at' : Int) : Int × Int := if rightD D = true ∧ 0 ≤ at' ∧ at' < s.size then ((nxP D (s.data.toList.drop at'.toNat)).1, at' + (nxP D (s.data.toList.drop at'.toNat)).2) else (-1, 0)
def sameP (a b : List Pc) : Bool := decide (a = b)
def wholeV (D : DfaM) (p : Pc) : Bool := decide (¬ p.2 = ⟨#[]⟩) && sameP (cutS D p.2) [p]
end Go.Proofs.Ytgaadndhecokfaa

/- The program's lexer in memory: a machine, a text, a map. -/
namespace Go.Proofs.Ytgaadndhecokfaa
open Go.RowKit Go.Lib Go.Joins

def lexC (g : Nat → Nat) (wd : Int) (vn vl : Value) (s : ByteArray) (m : Option Nat) : Array Value := dfaC g wd vn vl ++ #[.string s, .map m]
theorem lexC_size (g : Nat → Nat) (wd : Int) (vn vl : Value) (s : ByteArray) (m : Option Nat) : (lexC g wd vn vl s m).size = 261 := by
  unfold lexC
  rw [Array.size_append, dfaC_size]
  rfl
theorem lexC_fst (g : Nat → Nat) (wd : Int) (vn vl : Value) (s : ByteArray) (m : Option Nat) {j : Nat} (h : j < 259) : (lexC g wd vn vl s m)[j]? = (dfaC g wd vn vl)[j]? := by
  unfold lexC
  rw [Array.getElem?_append_left (by rw [dfaC_size]; exact h)]
theorem lexC_text (g : Nat → Nat) (wd : Int) (vn vl : Value) (s : ByteArray) (m : Option Nat) : (lexC g wd vn vl s m)[259]? = some (.string s) := by
  unfold lexC
  rw [Array.getElem?_append_right (by rw [dfaC_size]; omega), dfaC_size]
  rfl
theorem lexC_one (g : Nat → Nat) (wd : Int) {vn vl : Value} (s : ByteArray) (m : Option Nat) (h1 : vn.oneCell' = true) (h2 : vl.oneCell' = true) : (lexC g wd vn vl s m).all (·.oneCell') = true := by
  unfold lexC
  rw [Array.all_append, dfaC_one g wd h1 h2]
  simp [show (Value.string s).oneCell' = true from rfl, show (Value.map m).oneCell' = true from rfl]
/-- block B holds a lexer -/
def LexAt (w : World) (B : Nat) (g : Nat → Nat) (wd : Int) (vn vl : Value) (s : ByteArray) (m : Option Nat) : Prop := w.heap[B]? = some (.cells (lexC g wd vn vl s m) 98 (0, 0))
section
variable {w w' : World} {B : Nat} {g : Nat → Nat} {wd : Int} {vn vl : Value} {s : ByteArray} {m : Option Nat}
theorem LexAt.lt (h : LexAt w B g wd vn vl s m) : B < w.heap.size := (Array.getElem?_eq_some_iff.1 h).1
theorem LexAt.cls (h : LexAt w B g wd vn vl s m) {j : Nat} (hj : j < 256) : w.cell? ⟨B, j, none⟩ = some (.int .u8 (g j : Int)) := (cell_of_row w B j _ _ _ h).trans ((lexC_fst g wd vn vl s m (by omega)).trans (dfaC_cls g wd vn vl hj))
theorem LexAt.next (h : LexAt w B g wd vn vl s m) : w.cell? ⟨B, 257, none⟩ = some vn := (cell_of_row w B 257 _ _ _ h).trans ((lexC_fst g wd vn vl s m (by omega)).trans (dfaC_rest g wd vn vl).2.1)
theorem LexAt.label (h : LexAt w B g wd vn vl s m) : w.cell? ⟨B, 258, none⟩ = some vl := (cell_of_row w B 258 _ _ _ h).trans ((lexC_fst g wd vn vl s m (by omega)).trans (dfaC_rest g wd vn vl).2.2)
theorem LexAt.text (h : LexAt w B g wd vn vl s m) : w.cell? ⟨B, 259, none⟩ = some (.string s) := (cell_of_row w B 259 _ _ _ h).trans (lexC_text g wd vn vl s m)
theorem LexAt.below (h : LexAt w B g wd vn vl s m) (hb : Below w.heap.size w w') : LexAt w' B g wd vn vl s m := (hb.block B h.lt).trans h
theorem LexAt.new (w : World) (g : Nat → Nat) (wd : Int) (vn vl : Value) (s : ByteArray) (m : Option Nat) : LexAt (w.alloc (.cells (lexC g wd vn vl s m) 98)) w.heap.size g wd vn vl s m := heap_alloc_new w _
theorem LexAt.newAt (h : w.heap.size = B) : LexAt (w.alloc (.cells (lexC g wd vn vl s m) 98)) B g wd vn vl s m := by subst h; exact heap_alloc_new w _
end
theorem size_lex : (Try.prog.info? 98).map (·.size) = some 261 := by kernel_rfl
theorem run_zero_lex (w : World) : (zeroValue 98).run Try.prog w = .ok (.agg (lexC zG 0 (.slice none 0 0) (.slice none 0 0) ⟨#[]⟩ none)) w := by
  unfold lexC dfaC
  rw [show nV zG = (fun _ => Value.int .u8 0) from rfl, ← cellsN_zero]
  kernel_rfl
theorem run_build_lex (g : Nat → Nat) (wd : Int) (a a' : Option Addr) (l c l' c' : Nat) (s : ByteArray) (m : Nat) (w : World) : (Instr.build 98 #[(0, dfaA g wd (.slice a l c) (.slice a' l' c')), (1, .string s), (2, .map (some m))]).run Try.prog w = .ok (.agg (lexC g wd (.slice a l c) (.slice a' l' c') s (some m))) w :=
  run_build w _ _ _ (by kernel_rfl)
/-- the whole lexer is stored -/
theorem store_lex {ops : Array Oper} {rest : List Oper} {o : Oper} {a : Act} {Q : Exit → Act → World → Prop} {w : World} {B : Nat} {g h : Nat → Nat} {wd wd' : Int} {vn vl vn' vl' : Value} {s s' : ByteArray} {m m' : Option Nat} (hgd : o.guard = none) {x y : Operand} (ho : o.op = .store 98 x y)
    (hx : a.eval x = .pointer (some ⟨B, 0, none⟩)) (hy : a.eval y = .agg (lexC h wd' vn' vl' s' m')) (hA : LexAt w B g wd vn vl s m) (h1 : vn'.oneCell' = true) (h2 : vl'.oneCell' = true)
    (hk : ∀ w', LexAt w' B h wd' vn' vl' s' m' → w.grownBy w' (some B) → w'.heap.size = w.heap.size → wpList Try.prog ops Q rest (a.put o.dst undef) w') : wpList Try.prog ops Q (o :: rest) a w :=
  wpList_store_row hgd 98 x y ho B _ hx hy 98 _ hA (by rw [lexC_size]; exact size_lex) (by rw [lexC_size, lexC_size]) (lexC_one h wd' s' m' h1 h2)
    (hk _ (setRow_heap w B _ _ _ _ hA) ⟨rfl, rfl, rfl, by simp, fun k _ hne => setRow_other w B k _ (by simpa using hne)⟩ (by simp))
end Go.Proofs.Ytgaadndhecokfaa

/- Contract of the lexer's next. -/
namespace Go.Proofs.Ytgaadndhecokfaa
open Go.RowKit Go.Lib Go.Joins

/-- the best so far, as the lexer keeps it: none, or a state and the place behind its word -/
def Best (D : DfaM) (u : List UInt8) (k j : Nat) (a b : Int) : Prop := (a = 0 ∧ b = k ∧ nxG D u j = (-1, 1)) ∨
  ∃ e, 1 ≤ e ∧ e ≤ j ∧ a = stW D (u.take e) ∧ 0 ≤ a ∧ a < D.next.length ∧ b = (k : Int) + e ∧ nxG D u j = (labW D (u.take e), e) ∧ labW D (u.take e) = D.label.getD a.toNat 0 ∧ 0 ≤ labW D (u.take e)
theorem Best.start {D : DfaM} {u : List UInt8} {k : Nat} : Best D u k 0 0 k := .inl ⟨rfl, rfl, rfl⟩
theorem Best.miss {D : DfaM} {u : List UInt8} {k j : Nat} {a b : Int} (h : Best D u k j a b) (hl : labW D (u.take (j + 1)) < 0) : Best D u k (j + 1) a b := by
  have e : nxG D u (j + 1) = nxG D u j := by rw [nxG_more, if_neg (by omega)]
  rcases h with ⟨h1, h2, h3⟩ | ⟨x, h1, h2, h3⟩
  · exact .inl ⟨h1, h2, by rw [e, h3]⟩
  · exact .inr ⟨x, h1, by omega, h3.1, h3.2.1, h3.2.2.1, h3.2.2.2.1, by rw [e]; exact h3.2.2.2.2.1, h3.2.2.2.2.2⟩
theorem Best.hit {D : DfaM} {u : List UInt8} {k j : Nat} {x : Int} (hR : rightD D = true) (hx : x = stW D (u.take (j + 1))) (h0 : 0 ≤ x) (h1 : x < D.next.length) (hl : 0 ≤ D.label.getD x.toNat 0) : Best D u k (j + 1) x ((k + j + 1 : Nat) : Int) := by
  have e := labW_at hR (u := u.take (j + 1)) (by rw [← hx]; exact h0) (by rw [← hx]; exact h1)
  rw [← hx] at e
  exact .inr ⟨j + 1, by omega, Nat.le_refl _, hx, h0, h1, by omega, by rw [nxG_more, if_pos (by omega)], e, by omega⟩
/-- what the longest search comes to, once the run has stopped or the text has ended -/
theorem Best.done {D : DfaM} {u : List UInt8} {k j : Nat} {a b : Int} (h : Best D u k j a b) (he : nxP D u = nxG D u j) :
    (a = 0 ∧ b = k ∧ nxP D u = (-1, 1)) ∨ (¬ b = k ∧ 0 ≤ a ∧ a < D.next.length ∧ nxP D u = (D.label.getD a.toNat 0, (b - k).toNat) ∧ (k : Int) ≤ b) := by
  rcases h with ⟨h1, h2, h3⟩ | ⟨x, h1, h2, h3, h4, h5, h6, h7, h8, h9⟩
  · exact .inl ⟨h1, h2, by rw [he, h3]⟩
  · exact .inr ⟨by omega, h4, h5, by rw [he, h7, h8, h6]; congr 1; omega, by omega⟩
theorem eq_point {w : World} (a b c d : Int) : (Op.equalIn 10000 115 (.agg #[.int .i64 a, .int .i64 b]) (.agg #[.int .i64 c, .int .i64 d])).run Try.prog w = .ok (a == c && (b == d && true)) w := by
  obtain ⟨i, hi⟩ : ∃ i, Try.prog.info? 3 = some i := Option.isSome_iff_exists.1 (by kernel_rfl)
  have hc : Try.prog.cellsOf 3 = 1 := by kernel_rfl
  have he : Try.prog.plainKey 3 = true := by kernel_rfl
  rw [run_equalIn_array (P := Try.prog) (w := w) 9999 _ _ Try.underlying115 hi, hc, show List.range 2 = [0, 1] from rfl]
  exact items_step (d := 9998) he Try.underlying3 rfl rfl (items_step he Try.underlying3 rfl rfl items_end)
set_option maxHeartbeats 4000000 in
set_option maxRecDepth 100000 in
theorem lnext_calls {w : World} {B : Nat} {vn vl : Value} {D : DfaM} {s : ByteArray} {mp : Option Nat} (k : Nat) (hL : LexAt w B D.cls D.width vn vl s mp) (h : RdDfa w.heap.size w vn vl D) (hR : rightD D = true) (hs : s.size ≤ 200) (hk : k < s.size) :
    Calls Try.prog 48 #[.pointer (some ⟨B, 0, none⟩), .int .i64 k] w fun e w' => e = .returned (.tuple #[.int .i64 (nxP D (s.data.toList.drop k)).1, .int .i64 ((k : Int) + (nxP D (s.data.toList.drop k)).2)]) ∧ Below w.heap.size w w' := by
  obtain ⟨an, cn, rfl⟩ := h.next.form
  obtain ⟨al, cl, rfl⟩ := h.label.form
  obtain ⟨u, hu⟩ : ∃ u, u = s.data.toList.drop k := ⟨_, rfl⟩
  have hul : u.length = s.size - k := by rw [hu, List.length_drop, list_len]
  have HBYTE := hidden (fun j (hj : j < u.length) (hk2 : k + j < s.size) => (show (u[j]).toNat = (s[k + j]'hk2).toNat from by
    simp only [hu, List.getElem_drop]
    rfl))
  have HLL := hidden (show D.label.length = D.next.length from (rightD_spec hR).2.2.2.1)
  have HN0 := hidden (show 0 < D.next.length from by have := (rightD_spec hR).2.2.1; omega)
  have HNX := hidden (fun (x : Int) (h0 : 0 ≤ x) (h1 : x < D.next.length) (c : Nat) (hc : c < 256) => nxtD_in hR h0 h1 hc)
  have HLB := hidden (fun (i : Nat) (hi : i < D.next.length) => (show -1 ≤ D.label.getD i 0 from ((rightD_spec hR).2.2.2.2 i hi).2.1))
  have HRT := hidden hR
  have HD := hidden h
  have HLX := hidden hL
  rw [← hu]
  have HU := hidden hul
  have heq := @eq_point
  clear hu hul h hL hR
  obtain ⟨n, hn⟩ : ∃ n, n = D.next.length := ⟨_, rfl⟩
  obtain ⟨m, hm⟩ : ∃ m, m = D.label.length := ⟨_, rfl⟩
  rw [← hn] at HLL HN0 HNX HLB HLX HD
  rw [← hm] at HLL HLX HD
  have HN := hidden hn
  have HM := hidden hm
  clear hn hm
  have hB := HLX.out.lt
  have HBE := hidden hB
  clear hB
  go_enter Try.func48, Try.ntmps48
  go_wp2
  go_loopw [8, 9] (fun st pl wr => ∃ (j i : Nat) (x a b : Int), i = k + j ∧ j ≤ u.length ∧ st = .int .i64 x ∧ pl = .int .i64 i ∧ 0 ≤ x ∧ x < n ∧ Hid (x = stW D (u.take j)) ∧ Hid (Best D u k j a b) ∧ PairAt 115 wr w.heap.size 0 k ∧ PairAt 115 wr (w.heap.size + 1) a b ∧ Below w.heap.size w wr) (fun _ pl _ => s.size - (Go.RowKit.intOf pl).toNat)
  case atStart => exact ⟨0, k, 0, 0, k, by omega, by omega, rfl, rfl, by omega, by have := HN0.out; omega, hidden rfl, hidden Best.start, (PairAt.new _ w 0 k).alloc _, PairAt.made (by simp), ((Below.refl _ _).alloc (Nat.le_refl _) _).alloc (by simp) _⟩
  case round =>
    obtain ⟨j, i, x, a, b, hi0, hj, rfl, rfl, hx0, hxn, HXE, HBST, hp6, hp7, hb⟩ := hrel
    have HI := hidden hi0
    have hki : k ≤ i := by omega
    clear hi0
    have HP6R := hidden hp6
    have HP7R := hidden hp7
    have HB := hidden hb
    have hLr := HLX.out.below hb
    have c3 := hLr.text
    clear hp6 hp7 hb
    by_cases hlt : i < s.size
    · have hju : j < u.length := by have := HU.out; have := HI.out; omega
      obtain ⟨q, rfl⟩ : ∃ q : Nat, x = q := ⟨x.toNat, by omega⟩
      obtain ⟨c, hc⟩ : ∃ c, c = (s[i]'hlt).toNat := ⟨_, rfl⟩
      have hc256 : c < 256 := by rw [hc]; exact UInt8.toNat_lt _
      have hcx : ((s[i]'hlt).toNat : Int) = (c : Int) := by rw [hc]
      have hin := HNX.out (q : Int) hx0 hxn c hc256
      rw [Int.toNat_natCast] at hin
      have hstw : stW D (u.take (j + 1)) = nxtD D (q : Int) c := by
        rw [stW_more u hju (by rw [← HXE.out]; exact hx0), ← HXE.out, hc]
        congr 1
        have hi := HI.out
        subst hi
        exact HBYTE.out j hju hlt
      obtain ⟨b1, off, a', c', rfl, hbb, hcl, hrr⟩ := HD.out.next.at HB.out q (by rw [← HN.out]; omega)
      have hin1 : D.cls c < (D.next.getD q []).length := hin.1
      obtain ⟨b3, off3, rfl, hb3, hc3⟩ := hrr.atZ (Below.refl _ _) (D.cls c) hin1
      have hcls := hLr.cls hc256
      have hnx := hLr.next
      have c2 := fun (p : Later wr) => Later.cell hnx hLr.lt p
      have c5 := fun (p : Later wr) => Later.cell c3 hLr.lt p
      have c4 := fun (p : Later wr) => Later.cell hcls hLr.lt p
      have d0 := fun (p : Later wr) => Later.cell hcl (cell_lt hcl) p
      have d1 := fun (p : Later wr) => Later.cell hc3 (cell_lt hc3) p
      have hci : (c : Int) < 256 := by omega
      have hcl2 : D.cls c < 256 := HD.out.small c hc256
      have hin2 : (D.cls c : Int) < ((D.next.getD q []).length : Int) := by omega
      have hxx : (D.next.getD q []).getD (D.cls c) 0 = nxtD D (q : Int) c := rfl
      rw [hxx] at d1
      have hx1 := hin.2.1
      have hx2 := hin.2.2
      have HSTW := hidden hstw
      generalize nxtD D (q : Int) c = x' at *
      generalize (D.next.getD q []).length = rl at *
      generalize D.cls c = g at *
      clear hstw hin hcls hcl hc3 hrr hxx hc hin1 hnx
      go_wp2
      refine wp_region_later (by kernel_rfl) (by kernel_rfl) ?_
      repeat (go_big_quiet_step (fail))
      refine wpQuiet_nil ?_
      rintro _ ⟨⟨_, hb5⟩, rfl⟩
      rename_i w5
      have HBZ := hidden (below_then HB.out HB.out.size hb5)
      have HP6 := hidden (HP6R.out.below hb5)
      have HP7 := hidden (HP7R.out.below hb5)
      have hi1 : IntKind.i64.wrap ((i : Int) + 1) = ((i + 1 : Nat) : Int) := by rw [IntKind.wrap_i64]; omega
      clear hb5 c2 c4 c5 d0 d1 c3 hLr hci hcl2 hin2 hcx HP6R HP7R
      by_cases hxm : x' = -1
      · subst hxm
        have hlw : labW D (u.take (j + 1)) < 0 := by
          have h := lab_stop HRT.out (u := u.take (j + 1)) (v := []) (by rw [HSTW.out]; omega)
          rwa [List.append_nil] at h
        have HDN := hidden ((HBST.out.miss hlw).done (nxG_all HRT.out (by omega) (by rw [HSTW.out]; omega)))
        rw [← HN.out] at HDN
        clear hlw HBST hju hj
        rcases HDN.out with ⟨h1, h2, h3⟩ | ⟨h1, h2, h3, h4, h5⟩
        · subst h1 h2
          have HR3 := hidden h3
          have f1 := HP6.out.facts
          have f2 := HP7.out.facts
          obtain ⟨y1, y2, _, _⟩ := f1
          obtain ⟨z1, z2, _, _⟩ := f2
          have e1 : IntKind.i64.wrap ((k : Int) + 1) = (k : Int) + 1 := by rw [IntKind.wrap_i64]; omega
          clear h3 HDN
          go_wp2
          rw [HR3.out]
          exact bodyPost_ret (results_tmp2 rfl _ _ _) rfl ⟨rfl, HBZ.out⟩
        · obtain ⟨qa, rfl⟩ : ∃ qa : Nat, a = qa := ⟨a.toNat, by omega⟩
          have HR4 := hidden (h4.trans (by rw [Int.toNat_natCast]))
          have f1 := HP6.out.facts
          have f2 := HP7.out.facts
          obtain ⟨y1, y2, _, _⟩ := f1
          obtain ⟨z1, z2, _, _⟩ := f2
          have hbk : (b == (k : Int)) = false := by simpa using h1
          obtain ⟨lb9, lo9, rfl, hlb9, hlc9⟩ := HD.out.label.atZ HBZ.out qa (by rw [← HM.out]; have := HLL.out; omega)
          have hqm : (qa : Int) < (m : Int) := by have := HLL.out; omega
          have hl9 := (HLX.out.below HBZ.out).label
          have g1 := fun (p : Later w5) => Later.cell z1 HP7.out.lt p
          have g2 := fun (p : Later w5) => Later.cell z2 HP7.out.lt p
          have g3 := fun (p : Later w5) => Later.cell hl9 (HLX.out.below HBZ.out).lt p
          have g4 := fun (p : Later w5) => Later.cell hlc9 (cell_lt hlc9) p
          have HK5 := hidden h5
          have HH3 := hidden h3
          clear h1 h2 h3 h4 h5 HDN
          go_wp2
          refine wp_region_later (by kernel_rfl) (by kernel_rfl) ?_
          repeat (go_big_quiet_step (fail))
          refine wpQuiet_nil ?_
          rintro _ ⟨⟨_, hb9⟩, rfl⟩
          rename_i w9
          go_wp2
          rw [HR4.out]
          have hee : (k : Int) + ((b - k).toNat : Int) = b := by have := HK5.out; omega
          rw [hee]
          exact bodyPost_ret (results_tmp2 rfl _ _ _) rfl ⟨rfl, below_then HBZ.out HBZ.out.size hb9⟩
      · obtain ⟨q', rfl⟩ : ∃ q' : Nat, x' = q' := ⟨x'.toNat, by omega⟩
        have hxm1 : ((q' : Int) == -1) = false := by simp
        have hm0 : (((i : Int) + 1).tmod 256 == 0) = false := by rw [Int.tmod_eq_emod_of_nonneg (by omega)]; simp; omega
        have hm1 : (((i + 1 : Nat) : Int).tmod 256 == 0) = false := by rw [Int.tmod_eq_emod_of_nonneg (by omega)]; simp; omega
        obtain ⟨b6, off6, rfl, hb6, hlc⟩ := HD.out.label.atZ HBZ.out q' (by rw [← HM.out]; have := HLL.out; omega)
        have hqm : (q' : Int) < (m : Int) := by have := HLL.out; omega
        have hl5 := (HLX.out.below HBZ.out).label
        have hge := HLB.out q' (by omega)
        have HHIT := hidden (fun (h : 0 ≤ D.label.getD q' 0) => Best.hit (k := k) (j := j) (x := (q' : Int)) (u := u) HRT.out HSTW.out.symm (by omega) (by rw [← HN.out]; exact hx2) (by rw [Int.toNat_natCast]; exact h))
        have HMISS := hidden (fun (h : D.label.getD q' 0 < 0) => HBST.out.miss (by rw [labW_at HRT.out (by rw [HSTW.out]; omega) (by rw [HSTW.out, ← HN.out]; exact hx2), HSTW.out, Int.toNat_natCast]; exact h))
        obtain ⟨lv, hlv⟩ : ∃ lv, lv = D.label.getD q' 0 := ⟨_, rfl⟩
        rw [← hlv] at hlc hge HHIT HMISS
        have f7 := HP7.out.facts
        obtain ⟨z1, z2, z3, z4⟩ := f7
        clear hlv HBST
        by_cases hl : lv = -1
        · subst hl
          have HM2 := hidden (HMISS.out (by omega))
          go_wp2
          go_roundw
          case rel => exact ⟨j + 1, i + 1, q', a, b, by have := HI.out; omega, by omega, by go_num, by go_num, (by omega), hx2, hidden HSTW.out.symm, HM2, HP6.out, HP7.out, HBZ.out⟩
          case measure => simp [Go.RowKit.intOf]; omega
        · have hl1 : (lv == -1) = false := by simpa using hl
          have hl2 : (lv != -1) = true := by simpa using hl
          have HM2 := hidden (HHIT.out (by omega))
          go_wp2
          go_roundw
          case rel => exact ⟨j + 1, i + 1, q', q', ((k + j + 1 : Nat) : Int), by have := HI.out; omega, by omega, by go_num, by go_num, (by omega), hx2, hidden HSTW.out.symm, HM2, (HP6.out.other (by omega) _).other (by omega) _, by have hi := HI.out; subst hi; exact HP7.out.stored _ _, (HBZ.out.setCell (by simp) _).setCell (by simp) _⟩
          case measure => simp [Go.RowKit.intOf]; omega
    · have hje : j = u.length := by have := HU.out; have := HI.out; omega
      have HBZ := HB
      have HP6 := HP6R
      have HP7 := HP7R
      have HDN := hidden (HBST.out.done (by rw [hje]; rfl))
      rw [← HN.out] at HDN
      have hie : decide (i < s.size) = false := decide_eq_false hlt
      clear HBST hje hj
      rcases HDN.out with ⟨h1, h2, h3⟩ | ⟨h1, h2, h3, h4, h5⟩
      · subst h1 h2
        have HR3 := hidden h3
        have f1 := HP6.out.facts
        have f2 := HP7.out.facts
        obtain ⟨y1, y2, _, _⟩ := f1
        obtain ⟨z1, z2, _, _⟩ := f2
        have e1 : IntKind.i64.wrap ((k : Int) + 1) = (k : Int) + 1 := by rw [IntKind.wrap_i64]; omega
        clear h3 HDN
        go_wp2
        rw [HR3.out]
        exact bodyPost_ret (results_tmp2 rfl _ _ _) rfl ⟨rfl, HBZ.out⟩
      · obtain ⟨qa, rfl⟩ : ∃ qa : Nat, a = qa := ⟨a.toNat, by omega⟩
        have HR4 := hidden (h4.trans (by rw [Int.toNat_natCast]))
        have f1 := HP6.out.facts
        have f2 := HP7.out.facts
        obtain ⟨y1, y2, _, _⟩ := f1
        obtain ⟨z1, z2, _, _⟩ := f2
        have hbk : (b == (k : Int)) = false := by simpa using h1
        obtain ⟨lb9, lo9, rfl, hlb9, hlc9⟩ := HD.out.label.atZ HBZ.out qa (by rw [← HM.out]; have := HLL.out; omega)
        have hqm : (qa : Int) < (m : Int) := by have := HLL.out; omega
        have hl9 := (HLX.out.below HBZ.out).label
        have g1 := fun (p : Later wr) => Later.cell z1 HP7.out.lt p
        have g2 := fun (p : Later wr) => Later.cell z2 HP7.out.lt p
        have g3 := fun (p : Later wr) => Later.cell hl9 (HLX.out.below HBZ.out).lt p
        have g4 := fun (p : Later wr) => Later.cell hlc9 (cell_lt hlc9) p
        have HK5 := hidden h5
        have HH3 := hidden h3
        clear h1 h2 h3 h4 h5 HDN
        go_wp2
        refine wp_region_later (by kernel_rfl) (by kernel_rfl) ?_
        repeat (go_big_quiet_step (fail))
        refine wpQuiet_nil ?_
        rintro _ ⟨⟨_, hb9⟩, rfl⟩
        rename_i w9
        go_wp2
        rw [HR4.out]
        have hee : (k : Int) + ((b - k).toNat : Int) = b := by have := HK5.out; omega
        rw [hee]
        exact bodyPost_ret (results_tmp2 rfl _ _ _) rfl ⟨rfl, below_then HBZ.out HBZ.out.size hb9⟩
end Go.Proofs.Ytgaadndhecokfaa

/- Two arrays of 256 held against one another; a whole array loaded at a guarded operation. -/
namespace Go.Proofs.Ytgaadndhecokfaa
open Go.RowKit

end Go.Proofs.Ytgaadndhecokfaa
