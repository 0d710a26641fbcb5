/-
  No cell of these rows narrows 'for every input' (looked for: loops, veiled, ifaces, maps, wideKeys, modest, calm, conditions, laid).
  DERIVED. THE GIVEN ROWS OF THIS SEAT. 4 by the template 'for every input the law returns true; each argument reads behind the call as it read before'; 0 by the template 'total and deterministic' (their statements: YtnjjbaodfjmiaaaGreatTotals.lean).
  GIVEN WITH THE SEED: the statements are not yours to turn. If you find one false, say at which input.
  Laid BY PROGRAM, IN A SANDBOX (cutbox-rows.mjs): the forced cells as the released guide's own fill.sh prints them over the translation 63d743282c2f60e2… (all of the seat's roots in one cut). By AI agents, Wed Nov 11 2026. No macro, syntax, notation, axiom, sorry.
-/
import Derived.Test.YtnjjbaodfjmiaaaGreatChecked
import GoSem.Claim
import GoSem.ClaimJoined
import GoSem.ClaimMapViews
import Derived.JoinedTies
import Derived.KernelRfl
namespace Go.Proofs.YtnjjbaodfjmiaaaGreat
/- THE CELL 'sum', in the pinned program and in every row, IS THE sha256 OF THE DUMP (.gsa) THAT YtnjjbaodfjmiaaaGreatProg.lean LOADS. Nothing in Lean hashes anything: it is a label: what it is worth is what the hold of that sum in a sandbox is worth. -/
noncomputable def Tryz.pinned : Pinned := { name := "ytnjjbaodfjmiaaagreat", sum := "63d743282c2f60e22b24cfd42bf757881e0b3c75357618296554a9eddb92e2a5", checked := Tryz.checked }
namespace Rows
def none {H : Type} : Left H := { results := [], args := [] }

/-- 'facsimilelaw15.LiveTells': WHATEVER THE INPUT: true; the input reads as it did. -/
def liveTellsSpec : ChangeSpec := { name := "liveTells", fn := fun _ => fun
  | [d] => { results := [.lit (.bool true)], args := [d] }
  | _ => none }
def liveTellsRow : OpenClaim := { program := "ytnjjbaodfjmiaaagreat", sum := "63d743282c2f60e22b24cfd42bf757881e0b3c75357618296554a9eddb92e2a5", func := "facsimile/facsimilelaw15.LiveTells", spec := "liveTells", unfollowed := true, recurses := true, apart := false }
def LiveTellsSaid : Prop := liveTellsRow.holds Tryz.pinned (OpenSpec.ofChange liveTellsSpec)

/-- ITS FALSE NEIGHBOUR: 'it returns false'. Refute it at one input. -/
def liveTellsWrong : ChangeSpec := { name := "liveTells", fn := fun _ => fun
  | [d] => { results := [.lit (.bool false)], args := [d] }
  | _ => none }
def LiveTellsWrongFalsely : Prop := liveTellsRow.holds Tryz.pinned (OpenSpec.ofChange liveTellsWrong)

/-- 'facsimilelaw15.LiveWords': WHATEVER THE INPUT: true; the input reads as it did. -/
def liveWordsSpec : ChangeSpec := { name := "liveWords", fn := fun _ => fun
  | [d1, d2] => { results := [.lit (.bool true)], args := [d1, d2] }
  | _ => none }
def liveWordsRow : OpenClaim := { program := "ytnjjbaodfjmiaaagreat", sum := "63d743282c2f60e22b24cfd42bf757881e0b3c75357618296554a9eddb92e2a5", func := "facsimile/facsimilelaw15.LiveWords", spec := "liveWords", unfollowed := true, recurses := true, apart := false }
def LiveWordsSaid : Prop := liveWordsRow.holds Tryz.pinned (OpenSpec.ofChange liveWordsSpec)

/-- ITS FALSE NEIGHBOUR: 'it returns false'. Refute it at one input. -/
def liveWordsWrong : ChangeSpec := { name := "liveWords", fn := fun _ => fun
  | [d1, d2] => { results := [.lit (.bool false)], args := [d1, d2] }
  | _ => none }
def LiveWordsWrongFalsely : Prop := liveWordsRow.holds Tryz.pinned (OpenSpec.ofChange liveWordsWrong)

/-- 'facsimilelaw15.LiveSame': WHATEVER THE INPUT: true; the input reads as it did. -/
def liveSameSpec : ChangeSpec := { name := "liveSame", fn := fun _ => fun
  | [d1, d2] => { results := [.lit (.bool true)], args := [d1, d2] }
  | _ => none }
def liveSameRow : OpenClaim := { program := "ytnjjbaodfjmiaaagreat", sum := "63d743282c2f60e22b24cfd42bf757881e0b3c75357618296554a9eddb92e2a5", func := "facsimile/facsimilelaw15.LiveSame", spec := "liveSame", unfollowed := true, recurses := true, apart := false }
def LiveSameSaid : Prop := liveSameRow.holds Tryz.pinned (OpenSpec.ofChange liveSameSpec)

/-- ITS FALSE NEIGHBOUR: 'it returns false'. Refute it at one input. -/
def liveSameWrong : ChangeSpec := { name := "liveSame", fn := fun _ => fun
  | [d1, d2] => { results := [.lit (.bool false)], args := [d1, d2] }
  | _ => none }
def LiveSameWrongFalsely : Prop := liveSameRow.holds Tryz.pinned (OpenSpec.ofChange liveSameWrong)

/-- 'facsimilelaw15.LiveShown': WHATEVER THE INPUT: true; the input reads as it did. -/
def liveShownSpec : ChangeSpec := { name := "liveShown", fn := fun _ => fun
  | [d1, d2, d3] => { results := [.lit (.bool true)], args := [d1, d2, d3] }
  | _ => none }
def liveShownRow : OpenClaim := { program := "ytnjjbaodfjmiaaagreat", sum := "63d743282c2f60e22b24cfd42bf757881e0b3c75357618296554a9eddb92e2a5", func := "facsimile/facsimilelaw15.LiveShown", spec := "liveShown", unfollowed := true, recurses := true, apart := false }
def LiveShownSaid : Prop := liveShownRow.holds Tryz.pinned (OpenSpec.ofChange liveShownSpec)

/-- ITS FALSE NEIGHBOUR: 'it returns false'. Refute it at one input. -/
def liveShownWrong : ChangeSpec := { name := "liveShown", fn := fun _ => fun
  | [d1, d2, d3] => { results := [.lit (.bool false)], args := [d1, d2, d3] }
  | _ => none }
def LiveShownWrongFalsely : Prop := liveShownRow.holds Tryz.pinned (OpenSpec.ofChange liveShownWrong)

/- THE SECOND FORM. 'bulk': how many values and letters a reading holds, each counted each time it is reached (what is shared counts as often as it is met; a slice's spare places count too). A statement '..UptoSaid' is the law's where the arguments, and the package variables that the reading takes, are together of bulk at most 1048576: NARROWER than '..Said'. Prove '..Said' where nothing that the law and all that it calls make is longer than what came in: it says more and counts as full. Else prove '..UptoSaid'. A law counts once. -/
mutual
def uptoBulk {H : Type} : DataW H → Nat
  | .lit (.string bytes) => bytes.length + 1
  | .lit _ => 1
  | .nil => 1
  | .ptr d => uptoBulk d + 1
  | .slice elems spare => uptoBulkAll elems + uptoBulkAll spare + 1
  | .agg parts => uptoBulkAll parts + 1
  | .iface _ d => uptoBulk d + 1
  | .map entries => uptoBulkEntries entries + 1
  | .held _ => 1
def uptoBulkAll {H : Type} : List (DataW H) → Nat
  | [] => 0
  | d :: r => uptoBulk d + uptoBulkAll r
def uptoBulkEntries {H : Type} : List (Lit × DataW H) → Nat
  | [] => 0
  | x :: r => uptoBulkEntry x + uptoBulkEntries r
def uptoBulkEntry {H : Type} : Lit × DataW H → Nat
  | (.string bytes, d) => bytes.length + uptoBulk d + 1
  | (_, d) => uptoBulk d + 1
 end
def uptoSmall : (H : Type) → List (DataW H) → Bool := fun _ ds => decide (uptoBulkAll ds ≤ 1048576)
def OpenSpec.upto (s : _root_.Go.ChangeSpec) : _root_.Go.OpenSpec := { _root_.Go.OpenSpec.ofChange s with cond := some uptoSmall }

/-- 'facsimilelaw15.LiveTells', WHERE WHAT IT READS IS OF BULK AT MOST 1048576: true; the input reads as it did. -/
def liveTellsUptoRow : OpenClaim := { program := "ytnjjbaodfjmiaaagreat", sum := "63d743282c2f60e22b24cfd42bf757881e0b3c75357618296554a9eddb92e2a5", func := "facsimile/facsimilelaw15.LiveTells", spec := "liveTells", unfollowed := true, recurses := true, apart := false, narrowed := true }
def LiveTellsUptoSaid : Prop := liveTellsUptoRow.holds Tryz.pinned (OpenSpec.upto liveTellsSpec)

/-- 'facsimilelaw15.LiveWords', WHERE WHAT IT READS IS OF BULK AT MOST 1048576: true; the input reads as it did. -/
def liveWordsUptoRow : OpenClaim := { program := "ytnjjbaodfjmiaaagreat", sum := "63d743282c2f60e22b24cfd42bf757881e0b3c75357618296554a9eddb92e2a5", func := "facsimile/facsimilelaw15.LiveWords", spec := "liveWords", unfollowed := true, recurses := true, apart := false, narrowed := true }
def LiveWordsUptoSaid : Prop := liveWordsUptoRow.holds Tryz.pinned (OpenSpec.upto liveWordsSpec)

/-- 'facsimilelaw15.LiveSame', WHERE WHAT IT READS IS OF BULK AT MOST 1048576: true; the input reads as it did. -/
def liveSameUptoRow : OpenClaim := { program := "ytnjjbaodfjmiaaagreat", sum := "63d743282c2f60e22b24cfd42bf757881e0b3c75357618296554a9eddb92e2a5", func := "facsimile/facsimilelaw15.LiveSame", spec := "liveSame", unfollowed := true, recurses := true, apart := false, narrowed := true }
def LiveSameUptoSaid : Prop := liveSameUptoRow.holds Tryz.pinned (OpenSpec.upto liveSameSpec)

/-- 'facsimilelaw15.LiveShown', WHERE WHAT IT READS IS OF BULK AT MOST 1048576: true; the input reads as it did. -/
def liveShownUptoRow : OpenClaim := { program := "ytnjjbaodfjmiaaagreat", sum := "63d743282c2f60e22b24cfd42bf757881e0b3c75357618296554a9eddb92e2a5", func := "facsimile/facsimilelaw15.LiveShown", spec := "liveShown", unfollowed := true, recurses := true, apart := false, narrowed := true }
def LiveShownUptoSaid : Prop := liveShownUptoRow.holds Tryz.pinned (OpenSpec.upto liveShownSpec)

end Rows
end Go.Proofs.YtnjjbaodfjmiaaaGreat
