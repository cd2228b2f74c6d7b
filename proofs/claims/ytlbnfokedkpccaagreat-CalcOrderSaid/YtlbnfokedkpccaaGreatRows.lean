/-
  NARROWER THAN 'FOR EVERY INPUT', by the rows' own cells (each row's printed sentence says how): CalcTypes: loops · CalcEval: loops · CalcBin: loops · CalcPuts: loops.
  DERIVED. THE GIVEN ROWS OF THIS SEAT. 11 by the template 'for every input the law returns true; each argument reads behind the call as it read before'; 0 by the template 'total and deterministic' (their statements: YtlbnfokedkpccaaGreatTotals.lean).
  GIVEN WITH THE SEED: the statements are not yours to turn. If you find one false, say at which input.
  Laid BY PROGRAM, IN A SANDBOX (cutbox-rows.mjs): the forced cells as the released guide's own fill.sh prints them over the translation f60a931974de497f… (all of the seat's roots in one cut). By AI agents, Wed Nov 11 2026. No macro, syntax, notation, axiom, sorry.
-/
import Derived.Test.YtlbnfokedkpccaaGreatChecked
import GoSem.Claim
import GoSem.ClaimJoined
import GoSem.ClaimMapViews
import Derived.JoinedTies
import Derived.KernelRfl
namespace Go.Proofs.YtlbnfokedkpccaaGreat
/- THE CELL 'sum', in the pinned program and in every row, IS THE sha256 OF THE DUMP (.gsa) THAT YtlbnfokedkpccaaGreatProg.lean LOADS. Nothing in Lean hashes anything: it is a label: what it is worth is what the hold of that sum in a sandbox is worth. -/
noncomputable def Tryz.pinned : Pinned := { name := "ytlbnfokedkpccaagreat", sum := "f60a931974de497f9fdb5b1002683d7163876fb5fd98ff42465fa79927814e62", checked := Tryz.checked }
namespace Rows
def none {H : Type} : Left H := { results := [], args := [] }

/-- 'deltaworkslaw05.CalcTypes': WHATEVER THE INPUT: true; the input reads as it did. -/
def calcTypesSpec : ChangeSpec := { name := "calcTypes", fn := fun _ => fun
  | [d] => { results := [.lit (.bool true)], args := [d] }
  | _ => none }
def calcTypesRow : OpenClaim := { program := "ytlbnfokedkpccaagreat", sum := "f60a931974de497f9fdb5b1002683d7163876fb5fd98ff42465fa79927814e62", func := "deltaworks/deltaworkslaw05.CalcTypes", spec := "calcTypes", inPlace := ["internal/bytealg.abigen_runtime_cmpstring"], unfollowed := true, recurses := true, loops := true, plainKeys := false, apart := false }
def CalcTypesSaid : Prop := calcTypesRow.holds Tryz.pinned (OpenSpec.ofChange calcTypesSpec)

/-- ITS FALSE NEIGHBOUR: 'it returns false'. Refute it at one input. -/
def calcTypesWrong : ChangeSpec := { name := "calcTypes", fn := fun _ => fun
  | [d] => { results := [.lit (.bool false)], args := [d] }
  | _ => none }
def CalcTypesWrongFalsely : Prop := calcTypesRow.holds Tryz.pinned (OpenSpec.ofChange calcTypesWrong)

/-- 'deltaworkslaw05.CalcEval': WHATEVER THE INPUT: true; the input reads as it did. -/
def calcEvalSpec : ChangeSpec := { name := "calcEval", fn := fun _ => fun
  | [d] => { results := [.lit (.bool true)], args := [d] }
  | _ => none }
def calcEvalRow : OpenClaim := { program := "ytlbnfokedkpccaagreat", sum := "f60a931974de497f9fdb5b1002683d7163876fb5fd98ff42465fa79927814e62", func := "deltaworks/deltaworkslaw05.CalcEval", spec := "calcEval", inPlace := ["internal/bytealg.abigen_runtime_cmpstring"], unfollowed := true, recurses := true, loops := true, plainKeys := false, apart := false }
def CalcEvalSaid : Prop := calcEvalRow.holds Tryz.pinned (OpenSpec.ofChange calcEvalSpec)

/-- ITS FALSE NEIGHBOUR: 'it returns false'. Refute it at one input. -/
def calcEvalWrong : ChangeSpec := { name := "calcEval", fn := fun _ => fun
  | [d] => { results := [.lit (.bool false)], args := [d] }
  | _ => none }
def CalcEvalWrongFalsely : Prop := calcEvalRow.holds Tryz.pinned (OpenSpec.ofChange calcEvalWrong)

/-- 'deltaworkslaw05.CalcBin': WHATEVER THE INPUT: true; the input reads as it did. -/
def calcBinSpec : ChangeSpec := { name := "calcBin", fn := fun _ => fun
  | [d1, d2, d3] => { results := [.lit (.bool true)], args := [d1, d2, d3] }
  | _ => none }
def calcBinRow : OpenClaim := { program := "ytlbnfokedkpccaagreat", sum := "f60a931974de497f9fdb5b1002683d7163876fb5fd98ff42465fa79927814e62", func := "deltaworks/deltaworkslaw05.CalcBin", spec := "calcBin", inPlace := ["internal/bytealg.abigen_runtime_cmpstring"], unfollowed := true, recurses := true, loops := true, plainKeys := false, apart := false }
def CalcBinSaid : Prop := calcBinRow.holds Tryz.pinned (OpenSpec.ofChange calcBinSpec)

/-- ITS FALSE NEIGHBOUR: 'it returns false'. Refute it at one input. -/
def calcBinWrong : ChangeSpec := { name := "calcBin", fn := fun _ => fun
  | [d1, d2, d3] => { results := [.lit (.bool false)], args := [d1, d2, d3] }
  | _ => none }
def CalcBinWrongFalsely : Prop := calcBinRow.holds Tryz.pinned (OpenSpec.ofChange calcBinWrong)

/-- 'deltaworkslaw05.CalcPuts': WHATEVER THE INPUT: true; the input reads as it did. -/
def calcPutsSpec : ChangeSpec := { name := "calcPuts", fn := fun _ => fun
  | [d1, d2, d3] => { results := [.lit (.bool true)], args := [d1, d2, d3] }
  | _ => none }
def calcPutsRow : OpenClaim := { program := "ytlbnfokedkpccaagreat", sum := "f60a931974de497f9fdb5b1002683d7163876fb5fd98ff42465fa79927814e62", func := "deltaworks/deltaworkslaw05.CalcPuts", spec := "calcPuts", inPlace := ["internal/bytealg.abigen_runtime_cmpstring"], unfollowed := true, recurses := true, loops := true, plainKeys := false, apart := false }
def CalcPutsSaid : Prop := calcPutsRow.holds Tryz.pinned (OpenSpec.ofChange calcPutsSpec)

/-- ITS FALSE NEIGHBOUR: 'it returns false'. Refute it at one input. -/
def calcPutsWrong : ChangeSpec := { name := "calcPuts", fn := fun _ => fun
  | [d1, d2, d3] => { results := [.lit (.bool false)], args := [d1, d2, d3] }
  | _ => none }
def CalcPutsWrongFalsely : Prop := calcPutsRow.holds Tryz.pinned (OpenSpec.ofChange calcPutsWrong)

/-- 'deltaworkslaw05.CalcTotal': WHATEVER THE INPUT: true; the input reads as it did. -/
def calcTotalSpec : ChangeSpec := { name := "calcTotal", fn := fun _ => fun
  | [d] => { results := [.lit (.bool true)], args := [d] }
  | _ => none }
def calcTotalRow : OpenClaim := { program := "ytlbnfokedkpccaagreat", sum := "f60a931974de497f9fdb5b1002683d7163876fb5fd98ff42465fa79927814e62", func := "deltaworks/deltaworkslaw05.CalcTotal", spec := "calcTotal", inPlace := ["internal/bytealg.abigen_runtime_cmpstring"], unfollowed := true, recurses := true, plainKeys := false, apart := false }
def CalcTotalSaid : Prop := calcTotalRow.holds Tryz.pinned (OpenSpec.ofChange calcTotalSpec)

/-- ITS FALSE NEIGHBOUR: 'it returns false'. Refute it at one input. -/
def calcTotalWrong : ChangeSpec := { name := "calcTotal", fn := fun _ => fun
  | [d] => { results := [.lit (.bool false)], args := [d] }
  | _ => none }
def CalcTotalWrongFalsely : Prop := calcTotalRow.holds Tryz.pinned (OpenSpec.ofChange calcTotalWrong)

/-- 'deltaworkslaw05.CalcSubst': WHATEVER THE INPUT: true; the input reads as it did. -/
def calcSubstSpec : ChangeSpec := { name := "calcSubst", fn := fun _ => fun
  | [d] => { results := [.lit (.bool true)], args := [d] }
  | _ => none }
def calcSubstRow : OpenClaim := { program := "ytlbnfokedkpccaagreat", sum := "f60a931974de497f9fdb5b1002683d7163876fb5fd98ff42465fa79927814e62", func := "deltaworks/deltaworkslaw05.CalcSubst", spec := "calcSubst", inPlace := ["internal/bytealg.abigen_runtime_cmpstring"], unfollowed := true, recurses := true, plainKeys := false, apart := false }
def CalcSubstSaid : Prop := calcSubstRow.holds Tryz.pinned (OpenSpec.ofChange calcSubstSpec)

/-- ITS FALSE NEIGHBOUR: 'it returns false'. Refute it at one input. -/
def calcSubstWrong : ChangeSpec := { name := "calcSubst", fn := fun _ => fun
  | [d] => { results := [.lit (.bool false)], args := [d] }
  | _ => none }
def CalcSubstWrongFalsely : Prop := calcSubstRow.holds Tryz.pinned (OpenSpec.ofChange calcSubstWrong)

/-- 'deltaworkslaw05.CalcReads': WHATEVER THE INPUT: true; the input reads as it did. -/
def calcReadsSpec : ChangeSpec := { name := "calcReads", fn := fun _ => fun
  | [d1, d2] => { results := [.lit (.bool true)], args := [d1, d2] }
  | _ => none }
def calcReadsRow : OpenClaim := { program := "ytlbnfokedkpccaagreat", sum := "f60a931974de497f9fdb5b1002683d7163876fb5fd98ff42465fa79927814e62", func := "deltaworks/deltaworkslaw05.CalcReads", spec := "calcReads", inPlace := ["internal/bytealg.abigen_runtime_cmpstring"], unfollowed := true, recurses := true, plainKeys := false, apart := false }
def CalcReadsSaid : Prop := calcReadsRow.holds Tryz.pinned (OpenSpec.ofChange calcReadsSpec)

/-- ITS FALSE NEIGHBOUR: 'it returns false'. Refute it at one input. -/
def calcReadsWrong : ChangeSpec := { name := "calcReads", fn := fun _ => fun
  | [d1, d2] => { results := [.lit (.bool false)], args := [d1, d2] }
  | _ => none }
def CalcReadsWrongFalsely : Prop := calcReadsRow.holds Tryz.pinned (OpenSpec.ofChange calcReadsWrong)

/-- 'deltaworkslaw05.CalcCalls': WHATEVER THE INPUT: true; the input reads as it did. -/
def calcCallsSpec : ChangeSpec := { name := "calcCalls", fn := fun _ => fun
  | [d] => { results := [.lit (.bool true)], args := [d] }
  | _ => none }
def calcCallsRow : OpenClaim := { program := "ytlbnfokedkpccaagreat", sum := "f60a931974de497f9fdb5b1002683d7163876fb5fd98ff42465fa79927814e62", func := "deltaworks/deltaworkslaw05.CalcCalls", spec := "calcCalls", inPlace := ["internal/bytealg.abigen_runtime_cmpstring"], unfollowed := true, recurses := true, plainKeys := false, apart := false }
def CalcCallsSaid : Prop := calcCallsRow.holds Tryz.pinned (OpenSpec.ofChange calcCallsSpec)

/-- ITS FALSE NEIGHBOUR: 'it returns false'. Refute it at one input. -/
def calcCallsWrong : ChangeSpec := { name := "calcCalls", fn := fun _ => fun
  | [d] => { results := [.lit (.bool false)], args := [d] }
  | _ => none }
def CalcCallsWrongFalsely : Prop := calcCallsRow.holds Tryz.pinned (OpenSpec.ofChange calcCallsWrong)

/-- 'deltaworkslaw05.CalcWords': WHATEVER THE INPUT: true; the input reads as it did. -/
def calcWordsSpec : ChangeSpec := { name := "calcWords", fn := fun _ => fun
  | [d1, d2] => { results := [.lit (.bool true)], args := [d1, d2] }
  | _ => none }
def calcWordsRow : OpenClaim := { program := "ytlbnfokedkpccaagreat", sum := "f60a931974de497f9fdb5b1002683d7163876fb5fd98ff42465fa79927814e62", func := "deltaworks/deltaworkslaw05.CalcWords", spec := "calcWords", inPlace := ["internal/bytealg.abigen_runtime_cmpstring"], unfollowed := true, recurses := true, plainKeys := false, apart := false }
def CalcWordsSaid : Prop := calcWordsRow.holds Tryz.pinned (OpenSpec.ofChange calcWordsSpec)

/-- ITS FALSE NEIGHBOUR: 'it returns false'. Refute it at one input. -/
def calcWordsWrong : ChangeSpec := { name := "calcWords", fn := fun _ => fun
  | [d1, d2] => { results := [.lit (.bool false)], args := [d1, d2] }
  | _ => none }
def CalcWordsWrongFalsely : Prop := calcWordsRow.holds Tryz.pinned (OpenSpec.ofChange calcWordsWrong)

/-- 'deltaworkslaw05.CalcOrder': WHATEVER THE INPUT: true; the input reads as it did. -/
def calcOrderSpec : ChangeSpec := { name := "calcOrder", fn := fun _ => fun
  | [d1, d2, d3] => { results := [.lit (.bool true)], args := [d1, d2, d3] }
  | _ => none }
def calcOrderRow : OpenClaim := { program := "ytlbnfokedkpccaagreat", sum := "f60a931974de497f9fdb5b1002683d7163876fb5fd98ff42465fa79927814e62", func := "deltaworks/deltaworkslaw05.CalcOrder", spec := "calcOrder", inPlace := ["internal/bytealg.abigen_runtime_cmpstring"], unfollowed := true, recurses := true, plainKeys := false, apart := false }
def CalcOrderSaid : Prop := calcOrderRow.holds Tryz.pinned (OpenSpec.ofChange calcOrderSpec)

/-- ITS FALSE NEIGHBOUR: 'it returns false'. Refute it at one input. -/
def calcOrderWrong : ChangeSpec := { name := "calcOrder", fn := fun _ => fun
  | [d1, d2, d3] => { results := [.lit (.bool false)], args := [d1, d2, d3] }
  | _ => none }
def CalcOrderWrongFalsely : Prop := calcOrderRow.holds Tryz.pinned (OpenSpec.ofChange calcOrderWrong)

/-- 'deltaworkslaw05.CalcNames': WHATEVER THE INPUT: true; the input reads as it did. -/
def calcNamesSpec : ChangeSpec := { name := "calcNames", fn := fun _ => fun
  | [] => { results := [.lit (.bool true)], args := [] }
  | _ => none }
def calcNamesRow : OpenClaim := { program := "ytlbnfokedkpccaagreat", sum := "f60a931974de497f9fdb5b1002683d7163876fb5fd98ff42465fa79927814e62", func := "deltaworks/deltaworkslaw05.CalcNames", spec := "calcNames", inPlace := ["internal/bytealg.abigen_runtime_cmpstring"], unfollowed := true, recurses := true, plainKeys := false, apart := false }
def CalcNamesSaid : Prop := calcNamesRow.holds Tryz.pinned (OpenSpec.ofChange calcNamesSpec)

/-- ITS FALSE NEIGHBOUR: 'it returns false'. Refute it at one input. -/
def calcNamesWrong : ChangeSpec := { name := "calcNames", fn := fun _ => fun
  | [] => { results := [.lit (.bool false)], args := [] }
  | _ => none }
def CalcNamesWrongFalsely : Prop := calcNamesRow.holds Tryz.pinned (OpenSpec.ofChange calcNamesWrong)

/- THE SECOND FORM. 'bulk': how many values and letters a reading holds, each counted each time it is reached (what is shared counts as often as it is met; a slice's spare places count too). A statement '..UptoSaid' is the law's where the arguments, and the package variables that the reading takes, are together of bulk at most 1048576: NARROWER than '..Said'. Prove '..Said' where nothing that the law and all that it calls make is longer than what came in: it says more and counts as full. Else prove '..UptoSaid'. A law counts once. -/
mutual
def uptoBulk {H : Type} : DataW H → Nat
  | .lit (.string bytes) => bytes.length + 1
  | .lit _ => 1
  | .nil => 1
  | .ptr d => uptoBulk d + 1
  | .slice elems spare => uptoBulkAll elems + uptoBulkAll spare + 1
  | .agg parts => uptoBulkAll parts + 1
  | .iface _ d => uptoBulk d + 1
  | .map entries => uptoBulkEntries entries + 1
  | .held _ => 1
def uptoBulkAll {H : Type} : List (DataW H) → Nat
  | [] => 0
  | d :: r => uptoBulk d + uptoBulkAll r
def uptoBulkEntries {H : Type} : List (Lit × DataW H) → Nat
  | [] => 0
  | x :: r => uptoBulkEntry x + uptoBulkEntries r
def uptoBulkEntry {H : Type} : Lit × DataW H → Nat
  | (.string bytes, d) => bytes.length + uptoBulk d + 1
  | (_, d) => uptoBulk d + 1
 end
def uptoSmall : (H : Type) → List (DataW H) → Bool := fun _ ds => decide (uptoBulkAll ds ≤ 1048576)
def OpenSpec.upto (s : _root_.Go.ChangeSpec) : _root_.Go.OpenSpec := { _root_.Go.OpenSpec.ofChange s with cond := some uptoSmall }

/-- 'deltaworkslaw05.CalcTypes', WHERE WHAT IT READS IS OF BULK AT MOST 1048576: true; the input reads as it did. -/
def calcTypesUptoRow : OpenClaim := { program := "ytlbnfokedkpccaagreat", sum := "f60a931974de497f9fdb5b1002683d7163876fb5fd98ff42465fa79927814e62", func := "deltaworks/deltaworkslaw05.CalcTypes", spec := "calcTypes", inPlace := ["internal/bytealg.abigen_runtime_cmpstring"], unfollowed := true, recurses := true, loops := true, plainKeys := false, apart := false, narrowed := true }
def CalcTypesUptoSaid : Prop := calcTypesUptoRow.holds Tryz.pinned (OpenSpec.upto calcTypesSpec)

/-- 'deltaworkslaw05.CalcEval', WHERE WHAT IT READS IS OF BULK AT MOST 1048576: true; the input reads as it did. -/
def calcEvalUptoRow : OpenClaim := { program := "ytlbnfokedkpccaagreat", sum := "f60a931974de497f9fdb5b1002683d7163876fb5fd98ff42465fa79927814e62", func := "deltaworks/deltaworkslaw05.CalcEval", spec := "calcEval", inPlace := ["internal/bytealg.abigen_runtime_cmpstring"], unfollowed := true, recurses := true, loops := true, plainKeys := false, apart := false, narrowed := true }
def CalcEvalUptoSaid : Prop := calcEvalUptoRow.holds Tryz.pinned (OpenSpec.upto calcEvalSpec)

/-- 'deltaworkslaw05.CalcBin', WHERE WHAT IT READS IS OF BULK AT MOST 1048576: true; the input reads as it did. -/
def calcBinUptoRow : OpenClaim := { program := "ytlbnfokedkpccaagreat", sum := "f60a931974de497f9fdb5b1002683d7163876fb5fd98ff42465fa79927814e62", func := "deltaworks/deltaworkslaw05.CalcBin", spec := "calcBin", inPlace := ["internal/bytealg.abigen_runtime_cmpstring"], unfollowed := true, recurses := true, loops := true, plainKeys := false, apart := false, narrowed := true }
def CalcBinUptoSaid : Prop := calcBinUptoRow.holds Tryz.pinned (OpenSpec.upto calcBinSpec)

/-- 'deltaworkslaw05.CalcPuts', WHERE WHAT IT READS IS OF BULK AT MOST 1048576: true; the input reads as it did. -/
def calcPutsUptoRow : OpenClaim := { program := "ytlbnfokedkpccaagreat", sum := "f60a931974de497f9fdb5b1002683d7163876fb5fd98ff42465fa79927814e62", func := "deltaworks/deltaworkslaw05.CalcPuts", spec := "calcPuts", inPlace := ["internal/bytealg.abigen_runtime_cmpstring"], unfollowed := true, recurses := true, loops := true, plainKeys := false, apart := false, narrowed := true }
def CalcPutsUptoSaid : Prop := calcPutsUptoRow.holds Tryz.pinned (OpenSpec.upto calcPutsSpec)

/-- 'deltaworkslaw05.CalcTotal', WHERE WHAT IT READS IS OF BULK AT MOST 1048576: true; the input reads as it did. -/
def calcTotalUptoRow : OpenClaim := { program := "ytlbnfokedkpccaagreat", sum := "f60a931974de497f9fdb5b1002683d7163876fb5fd98ff42465fa79927814e62", func := "deltaworks/deltaworkslaw05.CalcTotal", spec := "calcTotal", inPlace := ["internal/bytealg.abigen_runtime_cmpstring"], unfollowed := true, recurses := true, plainKeys := false, apart := false, narrowed := true }
def CalcTotalUptoSaid : Prop := calcTotalUptoRow.holds Tryz.pinned (OpenSpec.upto calcTotalSpec)

/-- 'deltaworkslaw05.CalcSubst', WHERE WHAT IT READS IS OF BULK AT MOST 1048576: true; the input reads as it did. -/
def calcSubstUptoRow : OpenClaim := { program := "ytlbnfokedkpccaagreat", sum := "f60a931974de497f9fdb5b1002683d7163876fb5fd98ff42465fa79927814e62", func := "deltaworks/deltaworkslaw05.CalcSubst", spec := "calcSubst", inPlace := ["internal/bytealg.abigen_runtime_cmpstring"], unfollowed := true, recurses := true, plainKeys := false, apart := false, narrowed := true }
def CalcSubstUptoSaid : Prop := calcSubstUptoRow.holds Tryz.pinned (OpenSpec.upto calcSubstSpec)

/-- 'deltaworkslaw05.CalcReads', WHERE WHAT IT READS IS OF BULK AT MOST 1048576: true; the input reads as it did. -/
def calcReadsUptoRow : OpenClaim := { program := "ytlbnfokedkpccaagreat", sum := "f60a931974de497f9fdb5b1002683d7163876fb5fd98ff42465fa79927814e62", func := "deltaworks/deltaworkslaw05.CalcReads", spec := "calcReads", inPlace := ["internal/bytealg.abigen_runtime_cmpstring"], unfollowed := true, recurses := true, plainKeys := false, apart := false, narrowed := true }
def CalcReadsUptoSaid : Prop := calcReadsUptoRow.holds Tryz.pinned (OpenSpec.upto calcReadsSpec)

/-- 'deltaworkslaw05.CalcCalls', WHERE WHAT IT READS IS OF BULK AT MOST 1048576: true; the input reads as it did. -/
def calcCallsUptoRow : OpenClaim := { program := "ytlbnfokedkpccaagreat", sum := "f60a931974de497f9fdb5b1002683d7163876fb5fd98ff42465fa79927814e62", func := "deltaworks/deltaworkslaw05.CalcCalls", spec := "calcCalls", inPlace := ["internal/bytealg.abigen_runtime_cmpstring"], unfollowed := true, recurses := true, plainKeys := false, apart := false, narrowed := true }
def CalcCallsUptoSaid : Prop := calcCallsUptoRow.holds Tryz.pinned (OpenSpec.upto calcCallsSpec)

/-- 'deltaworkslaw05.CalcWords', WHERE WHAT IT READS IS OF BULK AT MOST 1048576: true; the input reads as it did. -/
def calcWordsUptoRow : OpenClaim := { program := "ytlbnfokedkpccaagreat", sum := "f60a931974de497f9fdb5b1002683d7163876fb5fd98ff42465fa79927814e62", func := "deltaworks/deltaworkslaw05.CalcWords", spec := "calcWords", inPlace := ["internal/bytealg.abigen_runtime_cmpstring"], unfollowed := true, recurses := true, plainKeys := false, apart := false, narrowed := true }
def CalcWordsUptoSaid : Prop := calcWordsUptoRow.holds Tryz.pinned (OpenSpec.upto calcWordsSpec)

/-- 'deltaworkslaw05.CalcOrder', WHERE WHAT IT READS IS OF BULK AT MOST 1048576: true; the input reads as it did. -/
def calcOrderUptoRow : OpenClaim := { program := "ytlbnfokedkpccaagreat", sum := "f60a931974de497f9fdb5b1002683d7163876fb5fd98ff42465fa79927814e62", func := "deltaworks/deltaworkslaw05.CalcOrder", spec := "calcOrder", inPlace := ["internal/bytealg.abigen_runtime_cmpstring"], unfollowed := true, recurses := true, plainKeys := false, apart := false, narrowed := true }
def CalcOrderUptoSaid : Prop := calcOrderUptoRow.holds Tryz.pinned (OpenSpec.upto calcOrderSpec)

/-- 'deltaworkslaw05.CalcNames', WHERE WHAT IT READS IS OF BULK AT MOST 1048576: true; the input reads as it did. -/
def calcNamesUptoRow : OpenClaim := { program := "ytlbnfokedkpccaagreat", sum := "f60a931974de497f9fdb5b1002683d7163876fb5fd98ff42465fa79927814e62", func := "deltaworks/deltaworkslaw05.CalcNames", spec := "calcNames", inPlace := ["internal/bytealg.abigen_runtime_cmpstring"], unfollowed := true, recurses := true, plainKeys := false, apart := false, narrowed := true }
def CalcNamesUptoSaid : Prop := calcNamesUptoRow.holds Tryz.pinned (OpenSpec.upto calcNamesSpec)

end Rows
end Go.Proofs.YtlbnfokedkpccaaGreat
