/- The document's Take. Slices of bytes of the call's own, and the texts made of them (for a seat that has []uint8). The document's bytes of a word. The document's bytes of a number that is not below 0. Rows of ints: of the call's own, one and two; that lie somewhere. -/
import Derived.Test.YtghlgmlelipjfaaZJobRead
import Derived.Test.YtghlgmlelipjfaaZJobDB
import Derived.Test.YtghlgmlelipjfaaRows
import Derived.Test.YtghlgmlelipjfaaZLaw
import Derived.Laws.IdiomStrings
import Derived.Test.YtghlgmlelipjfaaZJobMath
import Derived.OneCell
import Derived.Deep.RegionWith
import Derived.Laws.OwnMore
import Derived.Deep.AppendLies
namespace Go.Proofs.Ytghlgmlelipjfaa.Job
open Go.RowKit Go.Lib
open Goods (St Sts OwnS)
open Pen (Rq RqTo Link isBad uiN uiS)

set_option maxRecDepth 100000 in
set_option maxHeartbeats 16000000 in
theorem dtake (S : ByteArray) (w : World) (hS : S.size ≤ 4611686018427387904) :
    Calls Try.prog 19 #[.string S] w fun e w' => ∃ a m c, e = .returned (.tuple #[jV (takV S) (.slice a m c), .int .i64 (takE S)]) ∧ Hid (JIn w' a m (takV S).s ∧ m ≤ 8 ∧ Below w.heap.size w w') := by
  obtain ⟨G, X, hG, hX, HXB, HG⟩ := box_zero w
  obtain ⟨Q, Z, hQ, hZ⟩ : ∃ Q Z, X.heap.size = Q ∧ X.alloc (.cells #[.string S, .int .i64 0, .bool false] 67) = Z := ⟨_, _, rfl, rfl⟩
  have HZB : Hid (Below X.heap.size X Z ∧ Z.heap.size = Q + 1 ∧ RD Z Q S (some S)) := Lib.hid (by
    rw [← hZ, ← hQ]
    exact ⟨(Below.refl _ X).alloc (Nat.le_refl _) _, by simp, 0, heap_alloc_new X _, link_all S⟩)
  have HN : Hid (w.heap.size = G ∧ Q = G + 1 ∧ Below w.heap.size w Z ∧ Z.heap.size = Q + 1 ∧ Has Z G zJ (.slice none 0 0)) := Lib.hid ⟨hG, by have := HXB.out.2; omega, below_then HXB.out.1 HZB.out.1, HZB.out.2.1, has_under HG.out HZB.out.1⟩
  have HR := dread Q S (some S) Z hS HZB.out.2.2
  obtain ⟨J, s1, hJ⟩ : ∃ J s1, jobP (some S) = (J, s1) := ⟨_, _, rfl⟩
  rw [hJ] at HR
  have HR := Lib.hid HR
  have HTI := tak_is S
  unfold TakIs at HTI
  rw [hJ] at HTI
  have HTI := Lib.hid HTI
  obtain ⟨tv, htv⟩ : ∃ tv, takV S = tv := ⟨_, rfl⟩
  obtain ⟨te, hte⟩ : ∃ te, takE S = te := ⟨_, rfl⟩
  rw [htv, hte] at HTI
  rw [htv, hte]
  clear hJ htv hte hS
  go_enter Try.func19, Try.ntmps19
  go_wp2_with fail
  clear hG hX hQ hZ
  refine HR.out.mono ?_
  rintro e w1 ⟨a, m, c, rfl, H1⟩
  obtain ⟨U, y1, hU, hy1, HB1, HZ1⟩ := box_zero w1
  have HQF : Hid (Q ≠ G ∧ G < w1.heap.size ∧ w.heap.size ≤ Q) := Lib.hid ⟨by have := HN.out; omega, by have h1 := HN.out; have := H1.out.2.2.2.size; omega, by have := HN.out; omega⟩
  have HW1 : Hid (Below w.heap.size w w1 ∧ Has w1 G zJ (.slice none 0 0)) := Lib.hid ⟨below_of_only HN.out.2.2.1 HQF.out.2.2 H1.out.2.2.2, has_by HN.out.2.2.2.2 H1.out.2.2.2 HQF.out.1⟩
  obtain ⟨cur, hl1, hl2⟩ := H1.out.2.2.1
  have HLK : Hid (Rq w1 Q S cur (isBad s1) ∧ Link S s1 cur) := Lib.hid ⟨hl1, hl2⟩
  clear hl1 hl2
  obtain ⟨d, hd⟩ : ∃ d, Pen.doneOf s1 = d := ⟨_, rfl⟩
  have HDN : Hid (∀ W, Below w1.heap.size w1 W → Calls Try.prog 44 #[.pointer (some ⟨Q, 0, none⟩)] W fun e w' => e = .returned (.bool d) ∧ Hid (Below W.heap.size W w')) := Lib.hid fun W hW => by
    rw [← hd]
    refine (Pen.rdone_any Q S s1 cur W ((hW.block Q HLK.out.1.lt).trans HLK.out.1) HLK.out.2).mono ?_
    rintro e w' ⟨rfl, k, hk⟩
    exact ⟨rfl, Lib.hid (by rw [← hk]; exact ⟨rfl, rfl, rfl, Nat.le_refl _, fun _ _ => rfl⟩)⟩
  have HD := Lib.hid hd
  clear hd
  go_wp2_with ((with_reducible show wpList _ _ _ _ _ y1); refine store_jo rfl _ _ rfl U rfl J a m c rfl zJ (.slice none 0 0) HZ1.out ?_; intro w2 h2 g2; have L2 : Hid (Below w1.heap.size w1 w2 ∧ Has w2 U J (.slice a m c)) := Lib.hid ⟨below_of_only HB1.out.1 (Nat.le_of_eq hU) g2, h2⟩; clear h2 g2 hy1 hU)
  refine (HDN.out w2 L2.out.1).mono ?_
  rintro e w3 ⟨rfl, H3⟩
  have K3 : Hid (Below w.heap.size w w3 ∧ Has w3 G zJ (.slice none 0 0) ∧ Has w3 U J (.slice a m c) ∧ Below w1.heap.size w1 w3) := Lib.hid (by
    have hb := below_then L2.out.1 H3.out
    exact ⟨below_then HW1.out.1 hb, has_under HW1.out.2 hb, has_under L2.out.2 H3.out, hb⟩)
  have HJ3 : Hid (JIn w3 a m J.s ∧ m ≤ 1024 ∧ m ≤ 8) := Lib.hid ⟨JIn.under (sts_row H1.out.2.1) K3.out.2.2.2, by have := H1.out.1; omega, H1.out.1⟩
  cases d with
  | false =>
    have HBAD : Hid (te = 2 ∧ tv = zJ) := Lib.hid (HTI.out.2 fun h => by
      have h1 : s1 = some ⟨#[]⟩ := h.1
      have := HD.out
      rw [h1, done_nil] at this
      cases this)
    obtain ⟨rfl, rfl⟩ := HBAD.out
    go_wp2_with ((with_reducible show wpList _ _ _ (Oper.mk none _ _ _ _ _ :: _) _ w3); refine store_jo rfl _ _ rfl G rfl zJ none 0 0 rfl zJ (.slice none 0 0) K3.out.2.1 ?_; intro w5 h5 g5)
    exact ret_jo2 (x := zJ) (v := .slice none 0 0) rfl rfl rfl rfl h5 ⟨none, 0, 0, rfl, Lib.hid ⟨JIn.nil _, Nat.zero_le _, below_of_only K3.out.1 (by have := HN.out; omega) g5⟩⟩
  | true =>
    have HSX : Hid (s1 = some ⟨#[]⟩) := Lib.hid (done_yes HD.out)
    obtain ⟨er, her⟩ : ∃ er, chk J = er := ⟨_, rfl⟩
    have HCK := dcheck J a m c w3 HJ3.out.1 HJ3.out.2.1
    rw [her] at HCK
    have HCK : Hid (Calls Try.prog 11 #[jV J (.slice a m c)] w3 fun e w' => e = .returned (.int .i64 er) ∧ Hid (Below w3.heap.size w3 w')) := Lib.hid (HCK.mono fun _ _ ⟨e, h⟩ => ⟨e, Lib.hid h⟩)
    have HER := Lib.hid her
    clear her
    by_cases he : er = 0
    · have HOK : Hid (te = 0 ∧ tv = J) := Lib.hid (HTI.out.1 ⟨HSX.out, HER.out.trans he⟩)
      obtain ⟨e1, e2⟩ := HOK.out
      subst e1 e2
      subst he
      go_wp2_with ((with_reducible show wpList _ _ _ _ _ w3); refine load_joG rfl _ rfl U rfl tv (.slice a m c) K3.out.2.2.1 ?_)
      refine HCK.out.mono ?_
      rintro e w4 ⟨rfl, H4⟩
      have K4 : Hid (Below w.heap.size w w4 ∧ Has w4 G zJ (.slice none 0 0) ∧ Has w4 U tv (.slice a m c) ∧ JIn w4 a m tv.s ∧ Below w1.heap.size w1 w4) := Lib.hid ⟨below_then K3.out.1 H4.out, has_under K3.out.2.1 H4.out, has_under K3.out.2.2.1 H4.out, HJ3.out.1.under H4.out, below_then K3.out.2.2.2 H4.out⟩
      go_wp2_with (first
        | ((with_reducible show wpList _ _ _ (Oper.mk (some 20) _ _ _ _ _ :: _) _ w4); refine load_jo rfl _ rfl U rfl tv (.slice a m c) K4.out.2.2.1 ?_)
        | ((with_reducible show wpList _ _ _ (Oper.mk none _ _ _ _ _ :: _) _ w4); refine store_jo rfl _ _ rfl G rfl tv a m c rfl zJ (.slice none 0 0) K4.out.2.1 ?_; intro w5 h5 g5))
      exact ret_jo2 (x := tv) (v := .slice a m c) rfl rfl rfl rfl h5 ⟨a, m, c, rfl, Lib.hid ⟨sts_row (own_past (Goods.own_under H1.out.2.1 K4.out.2.2.2.2) g5 (by have := HN.out; omega)), HJ3.out.2.2, below_of_only K4.out.1 (by have := HN.out; omega) g5⟩⟩
    · have HBAD : Hid (te = 2 ∧ tv = zJ) := Lib.hid (HTI.out.2 fun h => he (HER.out.symm.trans h.2))
      obtain ⟨rfl, rfl⟩ := HBAD.out
      have hne : (er != 0) = true := by simpa using he
      clear he
      go_wp2_with ((with_reducible show wpList _ _ _ _ _ w3); refine load_joG rfl _ rfl U rfl J (.slice a m c) K3.out.2.2.1 ?_)
      refine HCK.out.mono ?_
      rintro e w4 ⟨rfl, H4⟩
      have K4 : Hid (Below w.heap.size w w4 ∧ Has w4 G zJ (.slice none 0 0)) := Lib.hid ⟨below_then K3.out.1 H4.out, has_under K3.out.2.1 H4.out⟩
      go_wp2_with ((with_reducible show wpList _ _ _ (Oper.mk none _ _ _ _ _ :: _) _ w4); refine store_jo rfl _ _ rfl G rfl zJ none 0 0 rfl zJ (.slice none 0 0) K4.out.2 ?_; intro w5 h5 g5)
      exact ret_jo2 (x := zJ) (v := .slice none 0 0) rfl rfl rfl rfl h5 ⟨none, 0, 0, rfl, Lib.hid ⟨JIn.nil _, Nat.zero_le _, below_of_only K4.out.1 (by have := HN.out; omega) g5⟩⟩
end Go.Proofs.Ytghlgmlelipjfaa.Job
namespace Go.Proofs.Ytghlgmlelipjfaa
open Go.RowKit Go.Lib

def byteCells (l : List UInt8) : List Value := l.map fun b => .int .u8 (b.toNat : Int)
theorem info_u8 : (Try.prog.info? 5).map (fun i => (i.zero, i.size, i.bytes)) = some (some (.int .u8 0), 1, 1) := by kernel_rfl
theorem conv_back (w : World) (g cap : Nat) (l : List UInt8) (base n : Nat) (h : w.ownsRow base 5 1 (.slice (some ⟨g, 0, none⟩) n cap) n (byteCells l)) :
    (convert 49 9 (.slice (some ⟨g, 0, none⟩) n cap)).run Try.prog w = .ok (.string ⟨l.toArray⟩) w := by
  have hn : n = l.length := by have := h.1; simp [byteCells] at this; omega
  subst hn
  refine run_convert_bytes_back w 49 9 5 ⟨g, 0, none⟩ cap l Try.underlying49 Try.underlying5 Try.underlying9 (fun j hj => ?_)
  exact h.cells rfl j _ (by simp [byteCells, hj])
theorem grown_below {w wr w1 : World} {e : TypeId} {size n : Nat} {v : Value} {xs : List Value} {o : Obj} (hb : Below w.heap.size w wr) (hown : wr.ownsRow w.heap.size e size v n xs) (hg : (wr.alloc o).grownBy w1 v.ownBlock) : Below w.heap.size w w1 := by
  have hs := hb.size
  have h1 : Below w.heap.size w (wr.alloc o) := hb.alloc hs o
  have hs1 := h1.size
  refine ⟨hg.os.trans h1.os, hg.tape.trans h1.tape, hg.output.trans h1.output, Nat.le_trans h1.size hg.size, fun k hk => ?_⟩
  rw [hg.block k (by omega) (fun e => by have := (hown.lt k e.symm).1; omega)]
  exact h1.block k hk
theorem below_grown {w X w1 : World} {e : TypeId} {size n : Nat} {v : Value} {xs : List Value} (hb : Below w.heap.size w X) (hown : X.ownsRow w.heap.size e size v n xs) (hg : X.grownBy w1 v.ownBlock) : Below w.heap.size w w1 := by
  have hs := hb.size
  refine ⟨hg.os.trans hb.os, hg.tape.trans hb.tape, hg.output.trans hb.output, Nat.le_trans hb.size hg.size, fun k hk => ?_⟩
  rw [hg.block k (by omega) (fun e => by have := (hown.lt k e.symm).1; omega)]
  exact hb.block k hk
/-- A block of the call's own begins with these bytes, and they may be written. -/
def Bl (w : World) (B : Nat) (l : List UInt8) : Prop := B < w.heap.size ∧ ∀ j (hj : j < l.length), w.cell? ⟨B, j, none⟩ = some (.int .u8 (l[j].toNat : Int)) ∧ w.frozen? ⟨B, j, none⟩ = false
theorem made_bytes (w : World) (s : ByteArray) :
    ∃ cap W, (convert 9 49 (.string s)).run Try.prog w = .ok (.slice (some ⟨w.heap.size, 0, none⟩) s.size cap) W ∧ Bl W w.heap.size s.data.toList ∧ Below w.heap.size w W := by
  refine ⟨_, _, run_bytes_of_string w 9 49 5 s Try.underlying9 Try.underlying49 Try.underlying5, ⟨by simp, fun j hj => ?_⟩, ((Below.refl _ w).drew).alloc (by simp) _⟩
  have hj' : j < s.data.size := by simpa using hj
  have hr := bytesRow_at s (grownCap w s.size 0 5) j hj'
  have hb : (w.drew.alloc (.cells (bytesRow s (grownCap w s.size 0 5)) 5 ((bytesRow s (grownCap w s.size 0 5)).size, (bytesRow s (grownCap w s.size 0 5)).size + 1))).heap[w.heap.size]? = some (.cells (bytesRow s (grownCap w s.size 0 5)) 5 ((bytesRow s (grownCap w s.size 0 5)).size, (bytesRow s (grownCap w s.size 0 5)).size + 1)) := heap_alloc_new w.drew _
  have hlt : j < (bytesRow s (grownCap w s.size 0 5)).size := by
    rcases Nat.lt_or_ge j (bytesRow s (grownCap w s.size 0 5)).size with h | h
    · exact h
    · rw [Array.getElem?_eq_none h] at hr; cases hr
  refine ⟨?_, ?_⟩
  · rw [cell_of_row _ w.heap.size j _ _ _ hb, hr]
    simp
  · simp only [World.frozen?, hb]
    simp
    omega
theorem Bl.set {w : World} {B : Nat} {l : List UInt8} (h : Bl w B l) (j : Nat) (hj : j < l.length) (c : UInt8) : Bl (w.setCell ⟨B, j, none⟩ (.int .u8 (c.toNat : Int))) B (l.set j c) := by
  refine ⟨by simpa [World.setCell] using h.1, fun k hk => ⟨?_, ?_⟩⟩
  · have hk' : k < l.length := by simpa using hk
    by_cases e : j = k
    · subst e
      rw [World.cell?_setCell_same (w := w) (h := (h.2 j hj).1)]
      simp
    · rw [World.cell?_setCell_other (w := w) (h := show (⟨B, j, none⟩ : Addr) ≠ ⟨B, k, none⟩ by intro h'; injection h' with _ h2 _; exact e h2), (h.2 k hk').1, List.getElem_set_ne e]
  · have hk' : k < l.length := by simpa using hk
    rw [World.frozen?_setCell]
    exact (h.2 k hk').2
theorem Bl.drew {w : World} {B : Nat} {l : List UInt8} (h : Bl w B l) : Bl w.drew B l := h
theorem Bl.back {w : World} {B : Nat} {l : List UInt8} (h : Bl w B l) (n cap : Nat) (hn : l.length = n) : (convert 49 9 (.slice (some ⟨B, 0, none⟩) n cap)).run Try.prog w = .ok (.string ⟨l.toArray⟩) w := by
  subst hn
  refine run_convert_bytes_back w 49 9 5 ⟨B, 0, none⟩ cap l Try.underlying49 Try.underlying5 Try.underlying9 (fun j hj => ?_)
  have hadd : (⟨B, 0, none⟩ : Addr).add j = ⟨B, j, none⟩ := by unfold Addr.add; split <;> simp_all
  rw [hadd]
  exact (h.2 j hj).1
theorem conv_one (c : Nat) (hc : c < 256) (w : World) (b cap : Nat) (h : w.cell? ⟨b, 0, none⟩ = some (.int .u8 c)) :
    (convert 49 9 (.slice (some ⟨b, 0, none⟩) 1 cap)).run Try.prog w = .ok (.string ⟨#[UInt8.ofNat c]⟩) w := by
  refine run_convert_bytes_back w 49 9 5 ⟨b, 0, none⟩ cap [UInt8.ofNat c] Try.underlying49 Try.underlying5 Try.underlying9 (fun j hj => ?_)
  obtain rfl : j = 0 := by simp at hj; omega
  have e : (UInt8.ofNat c).toNat = c := by simp; omega
  simpa [Addr.add, e] using h
end Go.Proofs.Ytghlgmlelipjfaa
namespace Go.Proofs.Ytghlgmlelipjfaa.Pen
open Go.RowKit Go.Lib

theorem cat_one {k n c m : Nat} (hW : wb (k + 1) n = UInt8.ofNat (128 + n % 128) :: wb k (n / 128)) (hc : 128 + n % 128 = c) (hm : n / 128 = m) : (⟨#[UInt8.ofNat c]⟩ : ByteArray) ++ ⟨(wb k m).toArray⟩ = ⟨(wb (k + 1) n).toArray⟩ := by
  rw [hW, hc, hm]
  exact ByteArray.mk_append_mk [UInt8.ofNat c] (wb k m)
set_option maxRecDepth 100000 in
set_option maxHeartbeats 2000000 in
theorem refword (k : Nat) : ∀ (n : Nat) (w : World), n < 2 * 128 ^ k → n < 18446744073709551616 → k ≤ 9 →
    Calls Try.prog 69 #[.int .u64 n] w fun e w' => e = .returned (.string ⟨(wb k n).toArray⟩) ∧ Below w.heap.size w w' := by
  induction k with
  | zero =>
    intro n w h1 h2 _
    have hlt : n < 128 := by simp at h1; omega
    have hconv := conv_one n (by omega) (w.alloc (.cells #[.int .u8 n] 5)) w.heap.size 1 (by simp)
    go_enter Try.func69, Try.ntmps69
    go_wp2_with fail
    go_ret
    exact ⟨rfl, (Below.refl _ _).alloc (Nat.le_refl _) _⟩
  | succ k ih =>
    intro n w h1 h2 hk
    by_cases hlt : n < 128
    · have hconv := conv_one n (by omega) (w.alloc (.cells #[.int .u8 n] 5)) w.heap.size 1 (by simp)
      have HW := Lib.hid (wb_small (k := k + 1) hlt)
      clear ih
      go_enter Try.func69, Try.ntmps69
      go_wp2_with fail
      go_ret
      exact ⟨ret_str (by rw [HW.out]), (Below.refl _ _).alloc (Nat.le_refl _) _⟩
    · have HW := Lib.hid (wb_big (k := k) hlt)
      have hge : (128 : Int) ≤ (n : Int) := by omega
      obtain ⟨c, hc⟩ : ∃ c, 128 + n % 128 = c := ⟨_, rfl⟩
      obtain ⟨m, hm⟩ : ∃ m, n / 128 = m := ⟨_, rfl⟩
      have hm1 : m < 2 * 128 ^ k := by
        rw [← hm]; rw [Nat.pow_succ] at h1
        exact Nat.div_lt_of_lt_mul (by omega)
      have IH := Lib.hid (fun w => ih m w hm1 (by omega) (by omega))
      clear ih
      have hc256 : c < 256 := by omega
      obtain ⟨r, hr⟩ : ∃ r, n % 128 = r := ⟨_, rfl⟩
      have hrt : (n : Int).tmod 128 = (r : Int) := by rw [Int.tmod_eq_emod_of_nonneg (by omega)]; omega
      have hci : IntKind.u64.wrap (128 + (r : Int)) = (c : Int) := by rw [wrap_u64_]; omega
      have hmw : IntKind.u64.wrap (m : Int) = (m : Int) := by rw [wrap_u64_]; omega
      have hcu : IntKind.u8.wrap (c : Int) = (c : Int) := by simp [IntKind.wrap, IntKind.bits, IntKind.signed]; omega
      have hmi : (n : Int) / 128 = (m : Int) := by omega
      have hlen := wb_len k m
      have hconv := conv_one c hc256
      have HC := Lib.hid hc; have HM := Lib.hid hm
      have HM1 := Lib.hid hm1
      clear hc hm hm1 hr
      go_enter Try.func69, Try.ntmps69
      go_wp2_with fail
      go_region_with (go_at_call 69; refine (IH.out _).mono ?_; rintro e w' ⟨rfl, hb⟩; obtain ⟨hcell, hfroz⟩ := bcell hb)
      all_goals
        go_wp2_with fail
        go_ret
        exact ⟨ret_str (cat_one HW.out HC.out HM.out), by first | exact below_a hb | exact below_b hb⟩
theorem rword_bytes (n : Nat) (w : World) (hn : n < 18446744073709551616) :
    Calls Try.prog 69 #[.int .u64 n] w fun e w' => e = .returned (.string (wordB n)) ∧ Below w.heap.size w w' :=
  refword 9 n w (by omega) hn (by omega)
end Go.Proofs.Ytghlgmlelipjfaa.Pen
namespace Go.Proofs.Ytghlgmlelipjfaa.Pen
open Go.RowKit Go.Lib

theorem ruint_bytes (n : Int) (w : World) (hn : n ≤ 9223372036854775807) :
    Calls Try.prog 59 #[.int .i64 n] w fun e w' => e = .returned (.string (uintB n)) ∧ Below w.heap.size w w' := by
  by_cases hneg : n < 0
  · have HN := Lib.hid (uintB_neg hneg)
    go_enter Try.func59, Try.ntmps59
    go_wp2_with fail
    go_ret
    exact ⟨ret_str (by rw [HN.out]), Below.refl _ _⟩
  · obtain ⟨m, rfl⟩ : ∃ m : Nat, n = m := ⟨n.toNat, by omega⟩
    have hd : decide ((m : Int) < 0) = false := by simp
    have HN := Lib.hid (uintB_nat m)
    clear hneg
    go_enter Try.func59, Try.ntmps59
    go_wp2_with fail
    refine (rword_bytes m _ (by omega)).mono ?_
    rintro e w' ⟨rfl, hb⟩
    go_wp2_with fail
    go_ret
    exact ⟨ret_str (by rw [HN.out]), hb⟩
end Go.Proofs.Ytghlgmlelipjfaa.Pen
namespace Go.Proofs.Ytghlgmlelipjfaa.IRows
open Go.RowKit Go.Lib

theorem addr_add (g o j : Nat) : (⟨g, o, none⟩ : Addr).add j = ⟨g, o + j, none⟩ := by
  unfold Addr.add
  split
  · rename_i h
    subst h
    simp
  · rfl
theorem info_int : (Try.prog.info? 3).map (fun i => (i.zero, i.size, i.bytes)) = some (some (.int .i64 0), 1, 8) := by kernel_rfl
/-- Ints in a row of one's own. -/
abbrev KS (w : World) (B : Nat) (v : Value) (l : List Int) : Prop := w.ownsRow B 3 1 v l.length (l.map (Value.int .i64))
theorem ks_nil (w : World) (B : Nat) : KS w B (.slice none 0 0) [] := World.ownsRow_nil _ _ _ _
theorem KS.moved {w w' : World} {B : Nat} {v : Value} {l : List Int} (h : KS w B v l) (hk : ∀ k, v.ownBlock = some k → w'.heap[k]? = w.heap[k]?) : KS w' B v l := by
  refine ⟨h.1, ?_⟩
  rcases h.2 with h1 | ⟨g, cap, cur, hv, h1, h2, h3⟩
  · exact .inl h1
  · exact .inr ⟨g, cap, cur, hv, h1, (hk g (by rw [hv]; rfl)).trans h2, h3⟩
theorem KS.under {w w' : World} {B : Nat} {v : Value} {l : List Int} (h : KS w B v l) (hb : Below w.heap.size w w') : KS w' B v l := h.moved fun k hk => hb.block k (h.lt k hk).2
/-- What a row of one's own is, and its cells. -/
theorem KS.at {w : World} {B : Nat} {v : Value} {l : List Int} (h : KS w B v l) : ∃ a c, v = .slice a l.length c ∧ (0 < l.length → ∃ g, a = some ⟨g, 0, none⟩ ∧ B ≤ g ∧ g < w.heap.size) ∧
    ∀ (i : Nat) (x : Int), l[i]? = some x → ∃ g, a = some ⟨g, 0, none⟩ ∧ g < w.heap.size ∧ w.cell? ⟨g, i, none⟩ = some (.int .i64 x) ∧ w.frozen? ⟨g, i, none⟩ = false := by
  rcases h.2 with ⟨hv, h0⟩ | ⟨g, cap, cur, hv, hb, hg, hn, hm, _⟩
  · refine ⟨none, 0, by rw [hv, h0], fun h1 => by omega, fun i x hx => ?_⟩
    have := (List.getElem?_eq_some_iff.1 hx).1
    omega
  · refine ⟨some ⟨g, 0, none⟩, cap, hv, fun _ => ⟨g, rfl, hb, (Array.getElem?_eq_some_iff.1 hg).1⟩, fun i x hx => ⟨g, rfl, (Array.getElem?_eq_some_iff.1 hg).1, ?_, ?_⟩⟩
    · have := h.cells (g := g) (by rw [hv]; rfl) i (.int .i64 x) (by rw [List.getElem?_map, hx]; rfl)
      rw [addr_add, Nat.zero_add] at this
      exact this
    · subst hv
      exact World.ownsRow.frozenAt h i
/-- One more at its end. -/
theorem app_int (w : World) (B : Nat) (v : Value) (xs : List Int) (x : Int) (h : KS w B v xs) (hl : xs.length ≤ 1099511627776) (hB : B ≤ w.heap.size) :
    ∃ g cap w', (Builtin.append_ #[52, 52] 52 #[v, .slice (some ⟨w.heap.size, 0, none⟩) 1 1]).run Try.prog (w.alloc (.cells #[.int .i64 x] 3)) = .ok (.slice (some ⟨g, 0, none⟩) (xs.length + 1) cap) w' ∧
      KS w' B (.slice (some ⟨g, 0, none⟩) (xs.length + 1) cap) (xs ++ [x]) ∧ Below B w w' ∧ (∀ q, q < w.heap.size → v.ownBlock ≠ some q → w'.heap[q]? = w.heap[q]?) ∧ (v.ownBlock = some g ∨ w.heap.size ≤ g) ∧ g < w'.heap.size := by
  obtain ⟨i0, hi, hz0, hz1, hz2⟩ := info_parts info_int
  have hal : Below B w (w.alloc (.cells #[.int .i64 x] 3)) := (Below.refl B w).alloc hB _
  obtain ⟨g, cap, w', hr, h2, h3, h4, h5⟩ := run_append_lies (P := Try.prog) (w.alloc (.cells #[.int .i64 x] 3)) 52 52 B 3 i0 (.int .i64 0) 1 8 Try.underlying52 hi hz0 hz1 hz2 rfl (by omega) v xs.length (xs.map (Value.int .i64)) (h.alloc _) ⟨w.heap.size, 0, none⟩ 1 1 [.int .i64 x] rfl (fun j u hj => by
    match j, hj with
    | 0, hj => simp at hj; subst hj; simp [Addr.add]) (fun u hu => by simp at hu; subst hu; rfl) (by omega) (by unfold maxLen; omega) (by omega) (Nat.le_trans hB hal.size) _ rfl
  refine ⟨g, cap, w', hr, ?_, hal.grown h3 (Nat.le_trans hB hal.size) (fun q hq => (h.lt q hq).1), fun q hq hne => ?_, ?_, h5⟩
  · show w'.ownsRow B 3 1 _ (xs ++ [x]).length ((xs ++ [x]).map (Value.int .i64))
    rw [List.length_append, List.map_append]
    exact h2
  · exact (h3.block q (by simp; omega) (fun e => hne e.symm)).trans (heap_alloc_old _ _ hq)
  · rcases h4 with h4 | h4
    · exact .inl h4
    · right
      rw [h4]
      simp
/-- One of its own is turned. -/
theorem set_int {w : World} {B g c n : Nat} {l : List Int} (h : KS w B (.slice (some ⟨g, 0, none⟩) n c) l) (k : Nat) (x : Int) :
    KS (w.setCell ⟨g, k, none⟩ (.int .i64 x)) B (.slice (some ⟨g, 0, none⟩) n c) (l.set k x) ∧ Below B w (w.setCell ⟨g, k, none⟩ (.int .i64 x)) ∧ ∀ q, q ≠ g → (w.setCell ⟨g, k, none⟩ (.int .i64 x)).heap[q]? = w.heap[q]? := by
  obtain rfl : n = l.length := by
    rcases h.2 with ⟨hv, h0⟩ | ⟨_, _, _, hv, _⟩
    · cases hv
    · injection hv
  obtain ⟨h1, h2⟩ := World.ownsRow.stored h k (.int .i64 x)
  obtain ⟨hB, hlt⟩ := h.lt g rfl
  refine ⟨?_, (Below.refl B w).grown h2 (by omega) (fun q hq => by rw [← Option.some.inj hq]; exact hB), fun q hq => heap_setCell_other w ⟨g, k, none⟩ q _ (fun e => hq e)⟩
  show World.ownsRow _ B 3 1 _ (l.set k x).length ((l.set k x).map (Value.int .i64))
  rw [List.length_set, List.map_set]
  exact h1
/-- Two rows of one's own that do not touch. -/
structure Two (w : World) (B : Nat) (v1 : Value) (l1 : List Int) (v2 : Value) (l2 : List Int) : Prop where
  one : KS w B v1 l1
  two : KS w B v2 l2
  far : ∀ g, v1.ownBlock = some g → v2.ownBlock ≠ some g
theorem Two.swap {w : World} {B : Nat} {v1 v2 : Value} {l1 l2 : List Int} (h : Two w B v1 l1 v2 l2) : Two w B v2 l2 v1 l1 := ⟨h.two, h.one, fun g h1 h2 => h.far g h2 h1⟩
theorem Two.under {w w' : World} {B : Nat} {v1 v2 : Value} {l1 l2 : List Int} (h : Two w B v1 l1 v2 l2) (hb : Below w.heap.size w w') : Two w' B v1 l1 v2 l2 := ⟨h.one.under hb, h.two.under hb, h.far⟩
theorem Two.app {w : World} {B : Nat} {v1 v2 : Value} {l1 l2 : List Int} (h : Two w B v1 l1 v2 l2) (x : Int) (hl : l1.length ≤ 1099511627776) (hB : B ≤ w.heap.size) :
    ∃ g cap w', (Builtin.append_ #[52, 52] 52 #[v1, .slice (some ⟨w.heap.size, 0, none⟩) 1 1]).run Try.prog (w.alloc (.cells #[.int .i64 x] 3)) = .ok (.slice (some ⟨g, 0, none⟩) (l1.length + 1) cap) w' ∧
      Two w' B (.slice (some ⟨g, 0, none⟩) (l1.length + 1) cap) (l1 ++ [x]) v2 l2 ∧ Below B w w' := by
  obtain ⟨g, cap, w', hr, h1, h2, h3, h4, _⟩ := app_int w B v1 l1 x h.one hl hB
  refine ⟨g, cap, w', hr, ⟨h1, h.two.moved fun k hk => h3 k (h.two.lt k hk).2 (fun e => h.far k e hk), fun q hq hq2 => ?_⟩, h2⟩
  have e : g = q := by simpa [Value.ownBlock] using hq
  subst e
  rcases h4 with h4 | h4
  · exact h.far g h4 hq2
  · have := (h.two.lt g hq2).2
    omega
theorem Two.set {w : World} {B g c n : Nat} {v2 : Value} {l1 l2 : List Int} (h : Two w B (.slice (some ⟨g, 0, none⟩) n c) l1 v2 l2) (k : Nat) (x : Int) :
    Two (w.setCell ⟨g, k, none⟩ (.int .i64 x)) B (.slice (some ⟨g, 0, none⟩) n c) (l1.set k x) v2 l2 ∧ Below B w (w.setCell ⟨g, k, none⟩ (.int .i64 x)) := by
  obtain ⟨h1, h2, h3⟩ := set_int h.one k x
  exact ⟨⟨h1, h.two.moved fun q hq => h3 q (fun e => h.far g rfl (by rw [← e]; exact hq)), h.far⟩, h2⟩
/-- Ints that lie somewhere. -/
def IRow (w : World) (a : Option Addr) (l : List Int) : Prop := ∀ (i : Nat) (x : Int), l[i]? = some x → ∃ g off, a = some ⟨g, off, none⟩ ∧ g < w.heap.size ∧ w.cell? ⟨g, off + i, none⟩ = some (.int .i64 x)
theorem IRow.under {w w' : World} {a : Option Addr} {l : List Int} (h : IRow w a l) (hb : Below w.heap.size w w') : IRow w' a l := fun i x hi => by
  obtain ⟨g, off, e, hg, k0⟩ := h i x hi
  exact ⟨g, off, e, Nat.lt_of_lt_of_le hg hb.size, ((bcell hb).1 g _ hg).trans k0⟩
theorem irow_own {w : World} {B : Nat} {v : Value} {l : List Int} (h : KS w B v l) : ∃ a c, v = .slice a l.length c ∧ IRow w a l := by
  obtain ⟨a, c, hv, _, hat⟩ := h.at
  refine ⟨a, c, hv, fun i x hx => ?_⟩
  obtain ⟨g, e, hg, k0, _⟩ := hat i x hx
  exact ⟨g, 0, e, hg, by simpa using k0⟩
/-- .. as a walk wants them, at any world behind. -/
theorem irow_at {w : World} {a : Option Addr} {l : List Int} (h : IRow w a l) : Hid (∀ W i, Below w.heap.size w W → i < l.length → ∃ g off x, a = some ⟨g, off, none⟩ ∧ Hid (l[i]? = some x) ∧ W.cell? ⟨g, off + i, none⟩ = some (.int .i64 x)) := Lib.hid (fun W i hW hi => by
  obtain ⟨g, off, e, _, k0⟩ := (h.under hW) i l[i] (List.getElem?_eq_getElem hi)
  exact ⟨g, off, _, e, Lib.hid (List.getElem?_eq_getElem hi), k0⟩)
theorem irow_all {w : World} {a : Option Addr} {l : List Int} (h : IRow w a l) : Hid (∀ i, i < l.length → ∃ g off x, a = some ⟨g, off, none⟩ ∧ Hid (l[i]? = some x) ∧ Hid (∀ W, Below w.heap.size w W → W.cell? ⟨g, off + i, none⟩ = some (.int .i64 x))) := Lib.hid (fun i hi => by
  obtain ⟨g, off, e, hg, k0⟩ := h i l[i] (List.getElem?_eq_getElem hi)
  exact ⟨g, off, _, e, Lib.hid (List.getElem?_eq_getElem hi), Lib.hid fun W hW => ((bcell hW).1 g _ hg).trans k0⟩)
end Go.Proofs.Ytghlgmlelipjfaa.IRows
