/- The sizes of default values, rule by rule. No program is walked here. -/
import Derived.Test.YtfmnjclnhppghaaQV
namespace Go.Proofs.Ytfmnjclnhppghaa
open Go Go.RowKit
end Go.Proofs.Ytfmnjclnhppghaa
