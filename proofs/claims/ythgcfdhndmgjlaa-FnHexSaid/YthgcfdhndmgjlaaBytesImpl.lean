/- The program's contracts of chapter 2, gathered. -/
import Derived.Test.YthgcfdhndmgjlaaISum
import Derived.Test.YthgcfdhndmgjlaaIHex
import Derived.Test.YthgcfdhndmgjlaaIParse
import Derived.Test.YthgcfdhndmgjlaaIEndian
import Derived.Test.YthgcfdhndmgjlaaISplice
