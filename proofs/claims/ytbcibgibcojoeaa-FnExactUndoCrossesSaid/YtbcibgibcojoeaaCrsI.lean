/- The contracts of the program's functions of crossings (implCrOk, implOrdA, implPairs, implFront, implUndo, implRed), gathered. Condition: the crossings lie in a row of their own. -/
import Derived.Test.YtbcibgibcojoeaaCroI
import Derived.Test.YtbcibgibcojoeaaOraI
import Derived.Test.YtbcibgibcojoeaaPaiI
import Derived.Test.YtbcibgibcojoeaaFroI
import Derived.Test.YtbcibgibcojoeaaUndI
import Derived.Test.YtbcibgibcojoeaaRedI
