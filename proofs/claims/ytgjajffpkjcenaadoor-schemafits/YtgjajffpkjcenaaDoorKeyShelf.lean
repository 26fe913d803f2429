/-
  The library's contracts: none is wanted here.
-/
import Derived.Test.YtgjajffpkjcenaaDoorChecked
import Derived.Deep.QuietTactic
import Derived.Deep.RegionWith
