/-
  What an element of a slice of numbers, of texts, or of bools, is. No function of the program.
-/
import Derived.Test.YtogpjblikphpcaaGreatDoorSep
namespace Go.Proofs.YtogpjblikphpcaaGreatDoor
open Go.RowKit

def intV (n : Int) : Value := .int .i64 n
def strV (x : ByteArray) : Value := .string x
def boolV (b : Bool) : Value := .bool b
end Go.Proofs.YtogpjblikphpcaaGreatDoor
