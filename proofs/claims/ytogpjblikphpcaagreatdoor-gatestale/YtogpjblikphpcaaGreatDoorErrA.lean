/-
  An error by its number, beside the twelve.
-/
import Derived.Test.YtogpjblikphpcaaGreatDoorCode
import Derived.Test.YtogpjblikphpcaaGreatDoorErrV
