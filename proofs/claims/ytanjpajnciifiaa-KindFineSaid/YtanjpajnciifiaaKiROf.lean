/- Contract of the reference's Of. -/
import Derived.Test.YtanjpajnciifiaaKiArr
import Derived.Test.YtanjpajnciifiaaKiSets
import Derived.Laws.ResultCell
namespace Go.Proofs.Ytanjpajnciifiaa
open Go.RowKit

/-- results: an array in memory, and a number -/
theorem ret_arr2 {fn : Func} {R : Ending → World → Prop} {a : Act} {w : World} {B p u : Nat} {v : Nat → Value} {g : Nat → Nat} {x : Value} (h : fn.results = #[.cell p 24, .tmp u]) (hp : a.tmps.getD p undef = .pointer (some ⟨B, 0, none⟩))
    (hu : a.tmps.getD u undef = x) (hd : a.defers = []) (hS : ArrAt w B 24 v) (e : ∀ n, n < 256 → v n = nV g n) (hR : R (.returned (.tuple #[ar g, x])) w) : bodyPost Try.prog fn R .ret a w := by
  have hl := run_loadVar_row (P := Try.prog) w B 24 24 _ (0, 0) _ (hS.congr e) Try.underlying24 rfl (by rw [cellsN_size]; exact size_arr)
  refine bodyPost_ret (v := .tuple #[ar g, x]) ?_ hd hR
  rw [results_cell_tmp h, hp, hu]
  simp [asAddr, hl, Result.andThen]

set_option maxHeartbeats 1000000 in
set_option maxRecDepth 100000 in
theorem rof_calls (l : Option Addr) (len cap : Nat) (fs : List (Nat → Bool)) (w : World) (hl : len ≤ 9223372036854775807) (hS : Sets w l len fs) :
    Calls Try.prog 9 #[.slice l len cap] w fun e w' => e = .returned (.tuple #[ar (clsK (keyL fs)), .int .i64 (cntK (keyL fs) 256)]) ∧ Below w.heap.size w w' := by
  have HS := hidden hS
  clear hS
  have hal := run_zero_arr
  have hbu := run_build_arr
  have HO := hidden (show ArrAt ((w.alloc (.cells (cellsN (nV fun _ => 0)) 24)).alloc (.cells (cellsN (nV fun _ => 0)) 24)) (w.heap.size + 1) 24 (nV fun _ => 0) from ArrAt.newAt (by simp))
  go_enter Try.func9, Try.ntmps9
  go_wp2_with (refine store_arr rfl (x := .tmp 4) (y := .tmp 8) rfl (B := w.heap.size + 1) (fun _ => 0) rfl rfl HO.out ?_; intro w2 hw2 hs2)
  have z0 : w2.heap.size = w.heap.size + 2 := by rw [hs2]; simp
  have HW : Hid (ArrAt w2 w.heap.size 24 (nV fun _ => 0) ∧ ArrAt w2 (w.heap.size + 1) 24 (nV fun _ => 0) ∧ Below w.heap.size w w2) := by
    have e := hw2.out
    subst e
    exact ⟨((ArrAt.new _ _ _).alloc _).otherRow (by omega) _, HO.out.storedRow _, below_setRow (by go_grown) (by omega) _⟩
  clear hw2 hs2 HO
  go_wp2
  go_loopw [5, 6] (fun x i wr => ∃ b : Nat, b ≤ 256 ∧ x = .int .i64 (cntK (keyL fs) b) ∧ i = .int .i64 b ∧ ArrAt wr w.heap.size 24 (nV fun _ => 0) ∧ ArrAt wr (w.heap.size + 1) 24 (nV (upG (clsK (keyL fs)) b)) ∧ Below w.heap.size w wr ∧ w.heap.size + 2 ≤ wr.heap.size) (fun _ i _ => 256 - (intOf i).toNat)
  case atStart =>
    obtain ⟨h1, h4, h5⟩ := HW.out
    exact ⟨0, by omega, rfl, rfl, h1, h4.congr fun j _ => by unfold nV; rw [upG_none], h5, by omega⟩
  case round =>
    obtain ⟨b, hk, rfl, rfl, h1, h4, h5, h6⟩ := hrel
    have H1 := hidden h1
    have H4 := hidden h4
    have H5 := hidden h5
    by_cases hlt : b < 256
    · clear h1 h4 h5
      have hcn := cnt_le (keyL fs) b
      have hcs := cnt_step (keyL fs) b
      have hbd : decide ((b : Int) < 256) = true := decide_eq_true (by omega)
      go_wp2
      go_loopw [7] (fun i wr => ∃ a : Nat, a ≤ fstK (keyL fs) b ∧ i = .int .i64 a ∧ ArrAt wr w.heap.size 24 (nV fun _ => 0) ∧ ArrAt wr (w.heap.size + 1) 24 (nV (upG (clsK (keyL fs)) b)) ∧ Below w.heap.size w wr ∧ w.heap.size + 2 ≤ wr.heap.size) (fun i _ => fstK (keyL fs) b - (intOf i).toNat)
      case atStart => exact ⟨0, by omega, rfl, H1.out, H4.out, H5.out, h6⟩
      case round =>
        clear H1 H4 H5
        obtain ⟨a, ha, rfl, h1, h4, h5, h6⟩ := hrel
        have H1 := hidden h1
        have H4 := hidden h4
        have H5 := hidden h5
        have hfl := fst_le (keyL fs) b
        have hab : a < 256 := by omega
        clear h1 h4 h5
        go_wp2_with fail
        refine (alike_calls l len cap fs a b _ hl hab hlt (HS.out.below H5.out)).mono ?_
        rintro e w5 ⟨rfl, hb5⟩
        have G1 := hidden (H1.out.below hb5)
        have G4 := hidden (H4.out.below hb5)
        have G5 := hidden (below_then H5.out (by omega) hb5)
        have g6 := hb5.size
        clear hb5 H1 H4 H5
        by_cases hlf : a < fstK (keyL fs) b
        · rw [decide_eq_false (fst_min (keyL fs) hlf)]
          go_wp2
          go_roundw
          case rel => exact ⟨a + 1, by omega, by go_num, G1.out, G4.out, G5.out, by omega⟩
          case measure => simp [intOf]; omega
        · have hk2 := fst_key (keyL fs) b
          obtain rfl : a = fstK (keyL fs) b := by omega
          have HFF := hidden (cls_first (keyL fs) b)
          have HNEW := hidden (cls_new (keyL fs) (b := b))
          have HCO := hidden (cnt_old (keyL fs) (n := b))
          have HCN := hidden (cnt_new (keyL fs) (n := b))
          have hc2 : cntK (keyL fs) b ≤ 255 := by omega
          rw [decide_eq_true hk2]
          clear hk2 hlf
          generalize fstK (keyL fs) b = a at *
          by_cases hlab : a < b
          · have hcl := (G4.out.cell hab)
            unfold nV at hcl
            rw [upG_all _ hlab, HFF.out] at hcl
            have hfz := G4.out.frozen b
            have hco := G4.out.cell hlt
            go_wp2
            refine ⟨⟨b + 1, by omega, by rw [HCO.out (by omega)], by go_num, G1.out.other (by omega) _, (G4.out.stored b _).congr fun j _ => ?_, G5.out.setCell (by dsimp only; omega) _, Nat.le_trans (by omega) ((Below.refl 0 w5).setCell (Nat.zero_le _) _).size⟩, by simp [intOf]; omega⟩
            rw [putN_nV]
            unfold nV
            rw [upG_put]
          · obtain rfl : a = b := by omega
            have wn : IntKind.u8.wrap (cntK (keyL fs) a : Int) = cntK (keyL fs) a := by rw [IntKind.wrap_u8]; omega
            have hfz := G4.out.frozen a
            have hco := G4.out.cell hlt
            go_wp2
            refine ⟨⟨a + 1, by omega, by rw [HCN.out (by trivial)]; simp, by go_num, G1.out.other (by omega) _, (G4.out.stored a _).congr fun j _ => ?_, G5.out.setCell (by dsimp only; omega) _, Nat.le_trans (by omega) ((Below.refl 0 w5).setCell (Nat.zero_le _) _).size⟩, by simp [intOf]; omega⟩
            rw [putN_nV, ← HNEW.out (by trivial)]
            unfold nV
            rw [upG_put]
    · obtain rfl : b = 256 := by omega
      clear h1 h4 h5
      go_wp2_with (first
        | (refine load_arr rfl (x := .tmp 4) rfl (B := w.heap.size + 1) rfl H4.out ?_)
        | (refine store_arr rfl (x := .tmp 2) (y := .tmp 34) rfl (B := w.heap.size) (upG (clsK (keyL fs)) 256) rfl rfl H1.out ?_; intro w3 hw3 hs3))
      have HE : Hid (ArrAt w3 w.heap.size 24 (nV (upG (clsK (keyL fs)) 256)) ∧ Below w.heap.size w w3) := by
        have e := hw3.out
        subst e
        exact ⟨H1.out.storedRow _, below_setRow H5.out (by omega) _⟩
      exact ret_arr2 Try.results9 rfl rfl rfl HE.out.1 (fun n hn => by unfold nV; rw [upG_all _ hn]) ⟨rfl, HE.out.2⟩
end Go.Proofs.Ytanjpajnciifiaa
