/-
  What an element of a slice of numbers, or of bools, is. No function of the program.
-/
import Derived.Test.YtffcdampeehgcaaSep
namespace Go.Proofs.Ytffcdampeehgcaa
open Go.RowKit

def intV (n : Int) : Value := .int .i64 n
def boolV (b : Bool) : Value := .bool b
end Go.Proofs.Ytffcdampeehgcaa
