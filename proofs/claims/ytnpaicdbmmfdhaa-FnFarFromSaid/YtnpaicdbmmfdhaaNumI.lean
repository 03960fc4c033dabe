/- Chapter 9's contracts of the program, all together. -/
import Derived.Test.YtnpaicdbmmfdhaaDsI
import Derived.Test.YtnpaicdbmmfdhaaNoI
import Derived.Test.YtnpaicdbmmfdhaaNxI
