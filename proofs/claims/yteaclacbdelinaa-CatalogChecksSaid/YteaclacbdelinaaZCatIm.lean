/- The program's catalogues answer in the document's words. -/
import Derived.Test.YteaclacbdelinaaZCatImM
import Derived.Test.YteaclacbdelinaaZCatImF
import Derived.Test.YteaclacbdelinaaZCatK
namespace Go.Proofs.Yteaclacbdelinaa.Cat
open Go.RowKit Go.Lib

theorem impl : Impl where
  check C w h := Im.check_im C w h.1 h.2.1
  needs C w h := Im.needs_im C w h.1 h.2.1
  maker C k w h _ := Im.maker_im C k w h.1 (by have := h.2.1.2.1; omega)
  blue C n w h _ := Im.blue_im C n w h.1 h.2.1
  bay C n w h _ := Im.bay_im C n w h.1 (by have := h.2.1.2.2; omega)
  put C w h := Im.put_im C w h.1 h.2.1
  take S w h := Im.take_im S w h
end Go.Proofs.Yteaclacbdelinaa.Cat
