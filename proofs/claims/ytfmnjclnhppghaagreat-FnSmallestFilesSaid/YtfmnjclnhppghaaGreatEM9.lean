/- Contracts of the model's functions on hexadecimal digits. -/
import Derived.Test.YtfmnjclnhppghaaGreatEGEnd
import Derived.IntWalk
import Derived.Test.YtfmnjclnhppghaaGreatEGNam
namespace Go.Proofs.YtfmnjclnhppghaaGreat
open Go Go.RowKit
end Go.Proofs.YtfmnjclnhppghaaGreat

/- Contract of the model's ParseHex. -/
namespace Go.Proofs.YtfmnjclnhppghaaGreat
open Go Go.RowKit
end Go.Proofs.YtfmnjclnhppghaaGreat

/- Numbers and hexadecimal digits that are read out of a text, as data. No program is walked here. -/
namespace Go.Proofs.YtfmnjclnhppghaaGreat
open Go Go.RowKit
end Go.Proofs.YtfmnjclnhppghaaGreat

/- The contracts of ReadDigits, the model's and the program's. -/
namespace Go.Proofs.YtfmnjclnhppghaaGreat
open Go Go.RowKit
end Go.Proofs.YtfmnjclnhppghaaGreat
