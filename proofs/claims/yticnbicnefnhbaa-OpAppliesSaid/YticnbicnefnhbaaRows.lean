/-
  No cell of these rows narrows 'for every input' (looked for: loops, veiled, ifaces, maps, wideKeys, modest, calm, conditions, laid).
  DERIVED. THE GIVEN ROWS OF THIS SEAT. 5 by the template 'for every input the law returns true; each argument reads behind the call as it read before'; 0 by the template 'total and deterministic' (their statements: YticnbicnefnhbaaTotals.lean).
  GIVEN WITH THE SEED: the statements are not yours to turn. If you find one false, say at which input.
  Laid BY PROGRAM, IN A SANDBOX (cutbox-rows.mjs): the forced cells as the released guide's own fill.sh prints them over the translation e8354b721eba3754… (all of the seat's roots in one cut). By AI agents, Wed Nov 11 2026. No macro, syntax, notation, axiom, sorry.
-/
import Derived.Test.YticnbicnefnhbaaChecked
import GoSem.Claim
import GoSem.ClaimJoined
import GoSem.ClaimMapViews
import Derived.JoinedTies
import Derived.KernelRfl
namespace Go.Proofs.Yticnbicnefnhbaa
/- THE CELL 'sum', in the pinned program and in every row, IS THE sha256 OF THE DUMP (.gsa) THAT YticnbicnefnhbaaProg.lean LOADS. Nothing in Lean hashes anything: it is a label: what it is worth is what the hold of that sum in a sandbox is worth. -/
noncomputable def Try.pinned : Pinned := { name := "yticnbicnefnhbaa", sum := "e8354b721eba37544f850378c0affd5b55510be3f2a8399247ac1cb29277febe", checked := Try.checked }
namespace Rows
def none {H : Type} : Left H := { results := [], args := [] }

/-- 'pentimentolaw11.OpTells': WHATEVER THE INPUT: true; the input reads as it did. -/
def opTellsSpec : ChangeSpec := { name := "opTells", fn := fun _ => fun
  | [d1, d2, d3, d4] => { results := [.lit (.bool true)], args := [d1, d2, d3, d4] }
  | _ => none }
def opTellsRow : OpenClaim := { program := "yticnbicnefnhbaa", sum := "e8354b721eba37544f850378c0affd5b55510be3f2a8399247ac1cb29277febe", func := "pentimento/pentimentolaw11.OpTells", spec := "opTells", unfollowed := true, recurses := true, apart := false }
def OpTellsSaid : Prop := opTellsRow.holds Try.pinned (OpenSpec.ofChange opTellsSpec)

/-- ITS FALSE NEIGHBOUR: 'it returns false'. Refute it at one input. -/
def opTellsWrong : ChangeSpec := { name := "opTells", fn := fun _ => fun
  | [d1, d2, d3, d4] => { results := [.lit (.bool false)], args := [d1, d2, d3, d4] }
  | _ => none }
def OpTellsWrongFalsely : Prop := opTellsRow.holds Try.pinned (OpenSpec.ofChange opTellsWrong)

/-- 'pentimentolaw11.OpApplies': WHATEVER THE INPUT: true; the input reads as it did. -/
def opAppliesSpec : ChangeSpec := { name := "opApplies", fn := fun _ => fun
  | [d1, d2, d3, d4] => { results := [.lit (.bool true)], args := [d1, d2, d3, d4] }
  | _ => none }
def opAppliesRow : OpenClaim := { program := "yticnbicnefnhbaa", sum := "e8354b721eba37544f850378c0affd5b55510be3f2a8399247ac1cb29277febe", func := "pentimento/pentimentolaw11.OpApplies", spec := "opApplies", unfollowed := true, recurses := true, apart := false }
def OpAppliesSaid : Prop := opAppliesRow.holds Try.pinned (OpenSpec.ofChange opAppliesSpec)

/-- ITS FALSE NEIGHBOUR: 'it returns false'. Refute it at one input. -/
def opAppliesWrong : ChangeSpec := { name := "opApplies", fn := fun _ => fun
  | [d1, d2, d3, d4] => { results := [.lit (.bool false)], args := [d1, d2, d3, d4] }
  | _ => none }
def OpAppliesWrongFalsely : Prop := opAppliesRow.holds Try.pinned (OpenSpec.ofChange opAppliesWrong)

/-- 'pentimentolaw11.OpBack': WHATEVER THE INPUT: true; the input reads as it did. -/
def opBackSpec : ChangeSpec := { name := "opBack", fn := fun _ => fun
  | [d1, d2] => { results := [.lit (.bool true)], args := [d1, d2] }
  | _ => none }
def opBackRow : OpenClaim := { program := "yticnbicnefnhbaa", sum := "e8354b721eba37544f850378c0affd5b55510be3f2a8399247ac1cb29277febe", func := "pentimento/pentimentolaw11.OpBack", spec := "opBack", unfollowed := true, recurses := true, apart := false }
def OpBackSaid : Prop := opBackRow.holds Try.pinned (OpenSpec.ofChange opBackSpec)

/-- ITS FALSE NEIGHBOUR: 'it returns false'. Refute it at one input. -/
def opBackWrong : ChangeSpec := { name := "opBack", fn := fun _ => fun
  | [d1, d2] => { results := [.lit (.bool false)], args := [d1, d2] }
  | _ => none }
def OpBackWrongFalsely : Prop := opBackRow.holds Try.pinned (OpenSpec.ofChange opBackWrong)

/-- 'pentimentolaw11.OpRedo': WHATEVER THE INPUT: true; the input reads as it did. -/
def opRedoSpec : ChangeSpec := { name := "opRedo", fn := fun _ => fun
  | [d1, d2, d3] => { results := [.lit (.bool true)], args := [d1, d2, d3] }
  | _ => none }
def opRedoRow : OpenClaim := { program := "yticnbicnefnhbaa", sum := "e8354b721eba37544f850378c0affd5b55510be3f2a8399247ac1cb29277febe", func := "pentimento/pentimentolaw11.OpRedo", spec := "opRedo", unfollowed := true, recurses := true, apart := false }
def OpRedoSaid : Prop := opRedoRow.holds Try.pinned (OpenSpec.ofChange opRedoSpec)

/-- ITS FALSE NEIGHBOUR: 'it returns false'. Refute it at one input. -/
def opRedoWrong : ChangeSpec := { name := "opRedo", fn := fun _ => fun
  | [d1, d2, d3] => { results := [.lit (.bool false)], args := [d1, d2, d3] }
  | _ => none }
def OpRedoWrongFalsely : Prop := opRedoRow.holds Try.pinned (OpenSpec.ofChange opRedoWrong)

/-- 'pentimentolaw11.OpMoves': WHATEVER THE INPUT: true; the input reads as it did. -/
def opMovesSpec : ChangeSpec := { name := "opMoves", fn := fun _ => fun
  | [d1, d2, d3] => { results := [.lit (.bool true)], args := [d1, d2, d3] }
  | _ => none }
def opMovesRow : OpenClaim := { program := "yticnbicnefnhbaa", sum := "e8354b721eba37544f850378c0affd5b55510be3f2a8399247ac1cb29277febe", func := "pentimento/pentimentolaw11.OpMoves", spec := "opMoves", unfollowed := true, recurses := true, apart := false }
def OpMovesSaid : Prop := opMovesRow.holds Try.pinned (OpenSpec.ofChange opMovesSpec)

/-- ITS FALSE NEIGHBOUR: 'it returns false'. Refute it at one input. -/
def opMovesWrong : ChangeSpec := { name := "opMoves", fn := fun _ => fun
  | [d1, d2, d3] => { results := [.lit (.bool false)], args := [d1, d2, d3] }
  | _ => none }
def OpMovesWrongFalsely : Prop := opMovesRow.holds Try.pinned (OpenSpec.ofChange opMovesWrong)

/- THE SECOND FORM. 'bulk': how many values and letters a reading holds, each counted each time it is reached (what is shared counts as often as it is met; a slice's spare places count too). A statement '..UptoSaid' is the law's where the arguments, and the package variables that the reading takes, are together of bulk at most 1048576: NARROWER than '..Said'. Prove '..Said' where nothing that the law and all that it calls make is longer than what came in: it says more and counts as full. Else prove '..UptoSaid'. A law counts once. -/
mutual
def uptoBulk {H : Type} : DataW H → Nat
  | .lit (.string bytes) => bytes.length + 1
  | .lit _ => 1
  | .nil => 1
  | .ptr d => uptoBulk d + 1
  | .slice elems spare => uptoBulkAll elems + uptoBulkAll spare + 1
  | .agg parts => uptoBulkAll parts + 1
  | .iface _ d => uptoBulk d + 1
  | .map entries => uptoBulkEntries entries + 1
  | .held _ => 1
def uptoBulkAll {H : Type} : List (DataW H) → Nat
  | [] => 0
  | d :: r => uptoBulk d + uptoBulkAll r
def uptoBulkEntries {H : Type} : List (Lit × DataW H) → Nat
  | [] => 0
  | x :: r => uptoBulkEntry x + uptoBulkEntries r
def uptoBulkEntry {H : Type} : Lit × DataW H → Nat
  | (.string bytes, d) => bytes.length + uptoBulk d + 1
  | (_, d) => uptoBulk d + 1
 end
def uptoSmall : (H : Type) → List (DataW H) → Bool := fun _ ds => decide (uptoBulkAll ds ≤ 1048576)
def OpenSpec.upto (s : _root_.Go.ChangeSpec) : _root_.Go.OpenSpec := { _root_.Go.OpenSpec.ofChange s with cond := some uptoSmall }

/-- 'pentimentolaw11.OpTells', WHERE WHAT IT READS IS OF BULK AT MOST 1048576: true; the input reads as it did. -/
def opTellsUptoRow : OpenClaim := { program := "yticnbicnefnhbaa", sum := "e8354b721eba37544f850378c0affd5b55510be3f2a8399247ac1cb29277febe", func := "pentimento/pentimentolaw11.OpTells", spec := "opTells", unfollowed := true, recurses := true, apart := false, narrowed := true }
def OpTellsUptoSaid : Prop := opTellsUptoRow.holds Try.pinned (OpenSpec.upto opTellsSpec)

/-- 'pentimentolaw11.OpApplies', WHERE WHAT IT READS IS OF BULK AT MOST 1048576: true; the input reads as it did. -/
def opAppliesUptoRow : OpenClaim := { program := "yticnbicnefnhbaa", sum := "e8354b721eba37544f850378c0affd5b55510be3f2a8399247ac1cb29277febe", func := "pentimento/pentimentolaw11.OpApplies", spec := "opApplies", unfollowed := true, recurses := true, apart := false, narrowed := true }
def OpAppliesUptoSaid : Prop := opAppliesUptoRow.holds Try.pinned (OpenSpec.upto opAppliesSpec)

/-- 'pentimentolaw11.OpBack', WHERE WHAT IT READS IS OF BULK AT MOST 1048576: true; the input reads as it did. -/
def opBackUptoRow : OpenClaim := { program := "yticnbicnefnhbaa", sum := "e8354b721eba37544f850378c0affd5b55510be3f2a8399247ac1cb29277febe", func := "pentimento/pentimentolaw11.OpBack", spec := "opBack", unfollowed := true, recurses := true, apart := false, narrowed := true }
def OpBackUptoSaid : Prop := opBackUptoRow.holds Try.pinned (OpenSpec.upto opBackSpec)

/-- 'pentimentolaw11.OpRedo', WHERE WHAT IT READS IS OF BULK AT MOST 1048576: true; the input reads as it did. -/
def opRedoUptoRow : OpenClaim := { program := "yticnbicnefnhbaa", sum := "e8354b721eba37544f850378c0affd5b55510be3f2a8399247ac1cb29277febe", func := "pentimento/pentimentolaw11.OpRedo", spec := "opRedo", unfollowed := true, recurses := true, apart := false, narrowed := true }
def OpRedoUptoSaid : Prop := opRedoUptoRow.holds Try.pinned (OpenSpec.upto opRedoSpec)

/-- 'pentimentolaw11.OpMoves', WHERE WHAT IT READS IS OF BULK AT MOST 1048576: true; the input reads as it did. -/
def opMovesUptoRow : OpenClaim := { program := "yticnbicnefnhbaa", sum := "e8354b721eba37544f850378c0affd5b55510be3f2a8399247ac1cb29277febe", func := "pentimento/pentimentolaw11.OpMoves", spec := "opMoves", unfollowed := true, recurses := true, apart := false, narrowed := true }
def OpMovesUptoSaid : Prop := opMovesUptoRow.holds Try.pinned (OpenSpec.upto opMovesSpec)

end Rows
end Go.Proofs.Yticnbicnefnhbaa
