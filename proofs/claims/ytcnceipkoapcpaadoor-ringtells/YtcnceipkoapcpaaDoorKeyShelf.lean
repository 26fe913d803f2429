/-
  The library's contracts: they lie in one text.
-/
import Derived.Test.YtcnceipkoapcpaaDoorDskShelf
