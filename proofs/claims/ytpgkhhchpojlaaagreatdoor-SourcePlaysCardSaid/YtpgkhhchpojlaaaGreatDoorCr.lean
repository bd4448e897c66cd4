/- The code's stack is one of which the calls answer as asked. -/
import Derived.Test.YtpgkhhchpojlaaaGreatDoorMa
import Derived.Test.YtpgkhhchpojlaaaGreatDoorCp
import Derived.Test.YtpgkhhchpojlaaaGreatDoorCq
namespace Go.Proofs.YtpgkhhchpojlaaaGreatDoor
open Go.RowKit Go.Maps Go.WideMaps

theorem cMeth : CMeth CKt where
  turn := fun h hT h1 h2 => h.turn hT h1 h2
  sets := fun h => ⟨h.sets.2.1, h.sets.2.2.1⟩
  ok := fun h => h.ok
  new := fun w => cNewS w
  copy := fun h => cCopyS h
  file := fun n t hs ht h => cFile n t hs ht h
  macro_ := fun n K0 v v2 ls ags hs _ hal hv hv2 hK0 h => cMacroS n K0 v v2 ls ags hs hal hv hv2 hK0 h
  wait := fun K0 v ls _ hv hK0 h => cWait K0 v ls hv hK0 h
  next := fun h => cNext h
  peek := fun h => cPeek h
  return_ := fun all h => cReturn all h
  instead := fun n t hs ht h => cInstead n t hs ht h
  shift := fun n hn h => cShift n hn h
  args := fun h => cArgs h
  name := fun h => cName h
  line := fun h => cLine h
  depth := fun h => cDepthS h
end Go.Proofs.YtpgkhhchpojlaaaGreatDoor
