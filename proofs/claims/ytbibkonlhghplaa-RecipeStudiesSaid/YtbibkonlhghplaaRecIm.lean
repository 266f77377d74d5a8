/- The program's recipe answers in the document's words. -/
import Derived.Test.YtbibkonlhghplaaRecImC
import Derived.Test.YtbibkonlhghplaaRecImD
namespace Go.Proofs.Ytbibkonlhghplaa.Recipe
theorem impl : Impl where
  check b ty w h _ := Im.check_im b ty w h.1
  needs b lv r w h _ _ := Im.needs_im b lv r w h.1
  makes b r w h _ := Im.makes_im b r w h.1
  runs b n w h _ := Im.runs_im b n w h.1
  time b lv r w h _ _ := Im.time_im b lv r w h.1
  study b lv n w h _ _ := Im.study_im b lv n w h.1
  copy b c r w h _ _ := Im.copy_im b c r w h.1
end Go.Proofs.Ytbibkonlhghplaa.Recipe
