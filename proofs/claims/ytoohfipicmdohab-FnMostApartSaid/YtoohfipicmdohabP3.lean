/-
  The law FnMostApart: what it takes (the parts lie in DF).
  Conditions: none.
-/
import Derived.Test.YtoohfipicmdohabLV
import Derived.Test.YtoohfipicmdohabE0
import Derived.Test.YtoohfipicmdohabDF
