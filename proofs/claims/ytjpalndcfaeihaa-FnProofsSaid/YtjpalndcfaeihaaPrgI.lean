/- The contracts of the program's functions of proofs that no casting exists, together. No condition. -/
import Derived.Test.YtjpalndcfaeihaaPrgB
import Derived.Test.YtjpalndcfaeihaaPrgC
import Derived.Test.YtjpalndcfaeihaaPrgD
