import Derived.Test.YtnachbjhhpnadaaGreatDoorBcP
import Derived.StillTailTactics
import Derived.BigQuiet
import Derived.Laws.EntriesVeiled
set_option linter.unusedVariables false
set_option linter.unusedSimpArgs false
set_option maxHeartbeats 8000000
set_option maxRecDepth 100000
namespace Go.Proofs.YtnachbjhhpnadaaGreatDoor
section
open Go.RowKit BwtM SrtM PkM
end
section
open Go.RowKit BwtM PkM
theorem ZgI (s:ByteArray) (h:0<s.size):s.toList.isEmpty=false:=by
 rw [ByteArray.toList_eq];have h2:=ZoY s;cases hl:s.data.toList with
 | nil=>rw [hl] at h2;simp at h2;omega
 | cons a t=>rfl
end
end Go.Proofs.YtnachbjhhpnadaaGreatDoor
