/- What the bound of an '..UptoSaid' gives. -/
import Derived.Test.YtfjedkebckfpfaaBase
import Derived.JoinedCond
namespace Go.Proofs.Ytfjedkebckfpfaa
open Go.RowKit

theorem upto_le {H : Type} {d : DataW H} {l : List (DataW H)} (h : d ∈ l) : Rows.uptoBulk d ≤ Rows.uptoBulkAll l := by
  induction l with
  | nil => cases h
  | cons x r ih =>
    simp only [Rows.uptoBulkAll]
    rcases List.mem_cons.1 h with e | e
    · subst e
      omega
    · have := ih e
      omega
theorem upto_string {H : Type} {l : List (DataW H)} {s : ByteArray} (hk : Rows.uptoSmall H l = true) (h : DataW.lit (H := H) (.string s.data.toList) ∈ l) : s.size ≤ 1048576 := by
  have h1 : Rows.uptoBulkAll l ≤ 1048576 := of_decide_eq_true hk
  have h2 := upto_le h
  rw [show Rows.uptoBulk (DataW.lit (H := H) (.string s.data.toList)) = s.data.toList.length + 1 by simp only [Rows.uptoBulk]] at h2
  have e : s.data.toList.length = s.size := by simp
  omega
end Go.Proofs.Ytfjedkebckfpfaa
