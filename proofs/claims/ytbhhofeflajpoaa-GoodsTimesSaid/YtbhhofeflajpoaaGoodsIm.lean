/- The program's goods keeps what the laws ask of it. -/
import Derived.Test.YtbhhofeflajpoaaGoodsImE
import Derived.Test.YtbhhofeflajpoaaGoodsImF
import Derived.Test.YtbhhofeflajpoaaGoodsImG
import Derived.Test.YtbhhofeflajpoaaGoodsImH
namespace Go.Proofs.Ytbhhofeflajpoaa.Goods

theorem impl : Impl where
  norm a n c l w hl hs hn hI := Im.norm_im a n c l w hl hs hn hI
  check a n c l ty w hl hs hn hI := Im.check_im a n c l ty w hl hs hn hI
  add a n c l b m d k w hl hs hn hI hk ht hm hJ := Im.add_both_im a n c l b m d k w hl hs hn hI hk ht hm hJ
  sub a n c l b m d k w hl hs hn hI hk ht hm hJ := Im.sub_im a n c l b m d k w hl hs hn hI hk ht hm hJ
  times a n c l k w hl hs hn hI hk := Im.times_im a n c l k w hl hs hn hI hk
  count a n c l k w hl hs hn hI hk := Im.count_of_im a n c l k w hl hs hn hI hk
  size a n c l w hl hs hn hI := Im.size_im a n c l w hl hs hn hI
end Go.Proofs.Ytbhhofeflajpoaa.Goods
