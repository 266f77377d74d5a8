/- The document's Same of two jobs that are the same. -/
import Derived.Test.YtghlgmlelipjfaaZPrRDone
import Derived.Test.YtghlgmlelipjfaaZGoodsB
namespace Go.Proofs.Ytghlgmlelipjfaa.Job
open Go.RowKit Go.Lib
open Goods (St Sts OwnS)

open Classical in
set_option maxRecDepth 100000 in
set_option maxHeartbeats 8000000 in
theorem dsame_jo (j : JS) (a : Option Addr) (n c : Nat) (b : Option Addr) (m d : Nat) (w : World) (h : JIn w a n j.s) (hn : n ≤ 1024) (k : JIn w b m j.s) (hm : m ≤ 1024) :
    Calls Try.prog 9 #[jV j (.slice a n c), jV j (.slice b m d)] w fun e w' => e = .returned (.bool true) ∧ Hid (Below w.heap.size w w') := by
  obtain ⟨V, X, hV, hX, HXB, HH⟩ := box_jo w j (.slice a n c)
  obtain ⟨G, Z, hG, hZ, HZB, HG⟩ := box_jo X j (.slice b m d)
  have HN : Hid (Below w.heap.size w Z) := Lib.hid (below_then HXB.out.1 HZB.out.1)
  have HHZ : Hid (Has Z V j (.slice a n c)) := Lib.hid (has_under HH.out HZB.out.1)
  have hS0 := Goods.dsame a n c j.s b m d j.s Z h.1 (h.under HN.out).2 (by omega) k.1 (k.under HN.out).2 (by omega)
  have HS : Hid (Calls Try.prog 28 #[.slice a n c, .slice b m d] Z fun e w' => e = .returned (.bool true) ∧ Hid (Below Z.heap.size Z w')) := Lib.hid (hS0.mono fun _ _ ⟨e, h⟩ => ⟨e.trans (ret_bool (decide_eq_true rfl)), Lib.hid h⟩)
  obtain ⟨k0, k1, k2, k3, k4, k5, k6, k7, k8, k9, k10, k11, k12, k13, k14, k15⟩ := jo_at HHZ.out
  obtain ⟨y0, y1, y2, y3, y4, y5, y6, y7, y8, y9, y10, y11, y12, y13, y14, y15⟩ := jo_at HG.out
  clear h hn k hm hS0
  go_enter Try.func9, Try.ntmps9
  go_wp2_with fail
  clear hV hX hG hZ
  refine HS.out.mono ?_
  rintro e w1 ⟨rfl, H1⟩
  obtain ⟨u0, u1, u2, u3, u4, u5, u6, u7, u8, u9, u10, u11, u12, u13, u14, u15⟩ := jo_at (has_under HHZ.out H1.out)
  obtain ⟨v0, v1, v2, v3, v4, v5, v6, v7, v8, v9, v10, v11, v12, v13, v14, v15⟩ := jo_at (has_under HG.out H1.out)
  go_wp2_with fail
  go_ret
  exact ⟨rfl, Lib.hid (below_then HN.out H1.out)⟩
end Go.Proofs.Ytghlgmlelipjfaa.Job
