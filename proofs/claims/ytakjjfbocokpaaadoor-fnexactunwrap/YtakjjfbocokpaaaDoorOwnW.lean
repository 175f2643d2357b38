/-
  Slices of ints that the call itself owns (OwnI), next to chapter 3's words.
-/
import Derived.Test.YtakjjfbocokpaaaDoorOwnI
import Derived.Test.YtakjjfbocokpaaaDoorChaQ
