/- Chapter 9's contracts of the program, all together. -/
import Derived.Test.YtdkmghbbnkppcaaDsI
import Derived.Test.YtdkmghbbnkppcaaNoI
import Derived.Test.YtdkmghbbnkppcaaNxI
