/-
  AgentDemand, and its arguments.
-/
import Derived.Test.YtlmpbmlbllndcaaNe
import Derived.Test.YtlmpbmlbllndcaaMz
namespace Go.Proofs.Ytlmpbmlbllndcaa
end Go.Proofs.Ytlmpbmlbllndcaa
