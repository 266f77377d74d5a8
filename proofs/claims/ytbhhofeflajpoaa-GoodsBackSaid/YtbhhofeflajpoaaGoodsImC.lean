/- The program's countBoth, Count, Size, Check. -/
import Derived.Test.YtbhhofeflajpoaaGoodsImB
namespace Go.Proofs.Ytbhhofeflajpoaa.Goods.Im
open Go.RowKit Go.Lib

/-- What countBoth tells of two lists. -/
def BothIs (w w' : World) (l k : List St) (m1 m2 : Option Nat) : Prop :=
  Below w.heap.size w w' ∧ (errB l k = 0 → ∃ b n q b' n' q', m1 = some b ∧ m2 = some b' ∧ w.heap.size ≤ b ∧ b < b' ∧ n ≤ l.length ∧ n' ≤ k.length ∧ CM w' b n q ∧ CM w' b' n' q' ∧ (∀ x, at0 q x = cnt l x) ∧ ∀ x, at0 q' x = cnt k x)
theorem both_no {w w' : World} {l k : List St} (hb : Below w.heap.size w w') (he : errB l k ≠ 0) (m1 m2 : Option Nat) : BothIs w w' l k m1 m2 := ⟨hb, fun h => absurd h he⟩
theorem both_yes {w w1 w2 : World} {l k : List St} {m1 m2 : Option Nat} (h : CountIs w w1 l m1) (h2 : CountIs w1 w2 k m2) (he : errN l = 0) (he2 : errN k = 0) : BothIs w w2 l k m1 m2 := by
  obtain ⟨hb, _, h3⟩ := h
  obtain ⟨hb2, _, h4⟩ := h2
  obtain ⟨b, n, q, e, h5, h6, h7, h8⟩ := h3 he
  obtain ⟨b', n', q', e', h9, h10, h11, h12⟩ := h4 he2
  exact ⟨below_then hb hb2, fun _ => ⟨b, n, q, b', n', q', e, e', h5, Nat.lt_of_lt_of_le h7.map.lt h9, h6, h10, h7.under hb2, h11, h8, h12⟩⟩
set_option maxRecDepth 100000 in
set_option maxHeartbeats 2000000 in
theorem both_im (a : Option Addr) (n c : Nat) (l : List St) (b : Option Addr) (m d : Nat) (k : List St) (w : World) (hl : l.length = n) (hs : Sts w a l) (hn : n ≤ 1024) (hI : In64 l) (hk : k.length = m) (ht : Sts w b k) (hm : m ≤ 1024) (hJ : In64 k) :
    Calls Try.prog 26 #[.slice a n c, .slice b m d] w fun e w' => ∃ m1 m2, e = .returned (.tuple #[.map m1, .map m2, .int .i64 (errB l k)]) ∧ Hid (BothIs w w' l k m1 m2) := by
  have HC := Lib.hid (count_im a n c l w hl hs hn hI)
  have HC2 : Hid (∀ W, Below w.heap.size w W → Calls Try.prog 23 #[.slice b m d] W fun e w' => ∃ mp, e = .returned (.tuple #[.map mp, .int .i64 (errN k)]) ∧ Hid (CountIs W w' k mp)) := Lib.hid (fun W hW => count_im b m d k W hk (ht.under hW) hm hJ)
  by_cases h0 : errN l = 0
  · have hE : errB l k = errN k := by unfold errB; rw [if_pos h0]
    have HB : Hid (∀ w1 w2 m1 m2, CountIs w w1 l m1 → CountIs w1 w2 k m2 → BothIs w w2 l k m1 m2 ∧ (errN k ≠ 0 → BothIs w w2 l k none none)) := Lib.hid (fun w1 w2 m1 m2 h1 h2 => by
      refine ⟨?_, fun h => both_no (below_then h1.1 h2.1) (by rw [hE]; exact h) _ _⟩
      by_cases h3 : errN k = 0
      · exact both_yes h1 h2 h0 h3
      · exact both_no (below_then h1.1 h2.1) (by rw [hE]; exact h3) _ _)
    rw [h0] at HC
    rw [hE]
    obtain ⟨er, her⟩ : ∃ er, errN k = er := ⟨_, rfl⟩
    rw [her] at HB HC2 ⊢
    clear hl hs hn hI hk ht hm hJ h0 hE her
    by_cases h1 : er = 0
    · have hne : (er == 0) = true := by simpa using h1
      subst h1
      go_enter Try.func26, Try.ntmps26
      go_wp2_with fail
      refine HC.out.mono ?_
      rintro e w1 ⟨m1, rfl, H1⟩
      go_wp2_with fail
      refine (HC2.out w1 H1.out.1).mono ?_
      rintro e w2 ⟨m2, rfl, H2⟩
      go_wp2_with fail
      go_ret3
      exact ⟨m1, m2, rfl, Lib.hid (HB.out _ _ _ _ H1.out H2.out).1⟩
    · have hne : (er == 0) = false := by simpa using h1
      have HN := Lib.hid h1
      clear h1
      go_enter Try.func26, Try.ntmps26
      go_wp2_with fail
      refine HC.out.mono ?_
      rintro e w1 ⟨m1, rfl, H1⟩
      go_wp2_with fail
      refine (HC2.out w1 H1.out.1).mono ?_
      rintro e w2 ⟨m2, rfl, H2⟩
      go_wp2_with fail
      go_ret3
      exact ⟨none, none, rfl, Lib.hid ((HB.out _ _ _ _ H1.out H2.out).2 HN.out)⟩
  · have hE : errB l k = errN l := by unfold errB; rw [if_neg h0]
    have HB : Hid (∀ w1, Below w.heap.size w w1 → BothIs w w1 l k none none) := Lib.hid (fun w1 h1 => both_no h1 (by rw [hE]; exact h0) _ _)
    rw [hE]
    obtain ⟨er, her⟩ : ∃ er, errN l = er := ⟨_, rfl⟩
    rw [her] at h0 HC ⊢
    have hne : (er == 0) = false := by simpa using h0
    clear hl hs hn hI hk ht hm hJ h0 hE her
    go_enter Try.func26, Try.ntmps26
    go_wp2_with fail
    refine HC.out.mono ?_
    rintro e w1 ⟨m1, rfl, H1⟩
    go_wp2_with fail
    go_ret3
    exact ⟨none, none, rfl, Lib.hid (HB.out _ H1.out.1)⟩
set_option maxRecDepth 100000 in
set_option maxHeartbeats 2000000 in
theorem count_of_im (a : Option Addr) (n c : Nat) (l : List St) (k : Int) (w : World) (hl : l.length = n) (hs : Sts w a l) (hn : n ≤ 1024) (hI : In64 l) (hk : Ints.I64 k) :
    Calls Try.prog 15 #[.slice a n c, .int .i64 k] w fun e w' => e = .returned (.int .i64 (cnt (valN l) k)) ∧ Below w.heap.size w w' := by
  have HC := Lib.hid (count_im a n c l w hl hs hn hI)
  have HK := Lib.hid hk
  by_cases h0 : errN l = 0
  · have HV : Hid (∀ x, cnt (valN l) x = cnt l x) := Lib.hid (fun x => by rw [valN_ok h0, cnt_nl])
    have HM : Hid (∀ w1 mp, CountIs w w1 l mp → ∃ b, mp = some b ∧ (Instr.lookup 41 (.map (some b)) (.int .i64 k) false).run Try.prog w1 = .ok (.int .i64 (cnt (valN l) k)) w1) := Lib.hid (fun w1 mp h => by
      obtain ⟨b, n, q, e, _, _, h2, h3⟩ := h.2.2 h0
      refine ⟨b, e, ?_⟩
      rw [h2.look HK.out, h3, HV.out])
    rw [h0] at HC
    obtain ⟨x, hx⟩ : ∃ x, cnt (valN l) k = x := ⟨_, rfl⟩
    rw [hx] at HM ⊢
    clear hl hs hn hI hk h0 hx
    go_enter Try.func15, Try.ntmps15
    go_wp2_with fail
    refine HC.out.mono ?_
    rintro e w1 ⟨m1, rfl, H1⟩
    obtain ⟨b, rfl, hlk⟩ := HM.out w1 m1 H1.out
    go_wp2_with fail
    go_ret
    exact ⟨rfl, H1.out.1⟩
  · have hv : cnt (valN l) k = 0 := by rw [valN_none h0]; rfl
    rw [hv]
    obtain ⟨er, her⟩ : ∃ er, errN l = er := ⟨_, rfl⟩
    rw [her] at h0 HC
    have hne : (er == 0) = false := by simpa using h0
    clear hl hs hn hI hk h0 her hv
    go_enter Try.func15, Try.ntmps15
    go_wp2_with fail
    refine HC.out.mono ?_
    rintro e w1 ⟨m1, rfl, H1⟩
    go_wp2_with fail
    go_ret
    exact ⟨rfl, H1.out.1⟩
end Go.Proofs.Ytbhhofeflajpoaa.Goods.Im
