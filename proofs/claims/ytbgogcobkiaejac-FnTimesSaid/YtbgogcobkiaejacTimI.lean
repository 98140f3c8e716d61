/- The contracts of the program's functions of chapter 12, gathered. No condition. -/
import Derived.Test.YtbgogcobkiaejacPk9
import Derived.Test.YtbgogcobkiaejacPk11
import Derived.Test.YtbgogcobkiaejacPk12
namespace Go.Proofs.Ytbgogcobkiaejac
end Go.Proofs.Ytbgogcobkiaejac
