/- ReadTerminated's contracts in the form that the exact law takes. -/
import Derived.Test.YtikpbeealeofaaaSTerm
import Derived.Test.YtikpbeealeofaaaArg
namespace Go.Proofs.Ytikpbeealeofaaa
open Go Go.RowKit
theorem term_specX (a : Option Addr) (bs : List UInt8) (cap : Nat) (n : Int) (t : UInt8) (w : World) (hl : bs.length ≤ 1048576) (_i : I64 n) (_hc : bs.length ≤ cap) (h : SrcB a bs cap w) :
    Calls Try.prog 9 #[.slice a bs.length cap, .int .i64 n, .int .u8 (t.toNat : Int)] w (TermOut (termL bs n t) (termN bs n t) (termK bs n t) w) := term_spec a bs cap n t w hl h.1
theorem term_implX (a : Option Addr) (bs : List UInt8) (cap : Nat) (n : Int) (t : UInt8) (w : World) (hl : bs.length ≤ 1048576) (_i : I64 n) (_hc : bs.length ≤ cap) (h : SrcB a bs cap w) :
    Calls Try.prog 11 #[.slice a bs.length cap, .int .i64 n, .int .u8 (t.toNat : Int)] w (TermOut (termL bs n t) (termN bs n t) (termK bs n t) w) := term_impl a bs cap n t w hl h
end Go.Proofs.Ytikpbeealeofaaa
