/- BsWritten BsWrite: put together for a claim. -/
import Derived.Test.YtjefgmeejhakbaaGreatDoorMgAS
import Derived.WalkLawsBesides
/- base's Disk.written: what was written, one behind the other. -/
namespace Go.Proofs.YtjefgmeejhakbaaGreatDoor
open Go.RowKit
section
variable {w : World} {d : Nat} {dv : List Value}
end
end Go.Proofs.YtjefgmeejhakbaaGreatDoor

/- base's Disk.write: a place has a commit's bytes, or some of them. -/
namespace Go.Proofs.YtjefgmeejhakbaaGreatDoor
open Go.RowKit
section
variable {w : World} {d : Nat} {dv : List Value}
end
end Go.Proofs.YtjefgmeejhakbaaGreatDoor
