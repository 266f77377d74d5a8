/- The program's zero-valued purse, cell by cell (to be written anew for a purse of another make). -/
import Derived.Test.YteglahogimdnfaaPurA
namespace Go.Proofs.Yteglahogimdnfaa.Purse
open Go.RowKit Go.Lib

abbrev zeroPurse : Array Value := #[.slice none 0 0, .slice none 0 0]
end Go.Proofs.Yteglahogimdnfaa.Purse
