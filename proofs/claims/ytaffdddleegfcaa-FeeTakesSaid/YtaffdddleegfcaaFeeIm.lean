/- The program's fees keep what the laws ask of them. -/
import Derived.Test.YtaffdddleegfcaaFeeImE
import Derived.Test.YtaffdddleegfcaaFeeH
import Derived.Test.YtaffdddleegfcaaFeeI
import Derived.Test.YtaffdddleegfcaaFeeJ
namespace Go.Proofs.Ytaffdddleegfcaa.Fee
open Go.RowKit Go.Lib

theorem impl : Impl where
  check f w _ := check_im f w
  broker f x w _ _ := broker_im f x w
  sale f x w _ _ := sale_im f x w
  bay r t w _ _ := bay_im r t w
  split n a m c ws w hl hs hm _ _ := split_im n a m c ws w hl hs hm
end Go.Proofs.Ytaffdddleegfcaa.Fee
