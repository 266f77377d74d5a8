/- The jobs of awake, and what is done to them. -/
import Derived.Test.YtghlgmlelipjfaaJobDo
namespace Go.Proofs.Ytghlgmlelipjfaa.Job.Im
open Go.RowKit Go.Lib
open Goods (St Sts OwnS)

theorem listed_nil : Goods.Listed [] 32 := by
  refine ⟨by simp, ?_, rfl, fun s hs => by cases hs⟩
  refine Goods.errN_ok (fun s hs => by cases hs) ?_
  rintro ⟨k, h⟩
  have e : Goods.cnt [] k = 0 := Goods.cnt_none fun s hs => by cases hs
  rw [e] at h
  unfold Goods.mq at h
  omega
theorem plain_ok : Ok plainJ := by
  refine ⟨⟨?_, ?_, ?_, ?_, ?_, ?_, ?_, ?_, ?_, ⟨?_, ?_⟩, ?_⟩, ⟨.inl rfl, listed_nil⟩, .inl ⟨.inl rfl, rfl, rfl, ?_⟩⟩
  all_goals
    unfold plainJ
    decide
def j1 : JS := startJ 5 plainJ
def j2 : JS := pauseJ 8 j1
def j3 : JS := resumeJ j2
def j4 : JS := startJ 20 j3
def j6 : JS := finishJ j4
def j7 : JS := deliverJ j6
theorem j1_ok : Ok j1 := start_ok plain_ok rfl (by decide)
theorem j2_ok : Ok j2 := pause_ok j1_ok rfl (by decide)
theorem j3_ok : Ok j3 := resume_ok j2_ok rfl
theorem j4_ok : Ok j4 := start_ok j3_ok rfl (by decide)
theorem j6_ok : Ok j6 := finish_ok (now := 27) j4_ok rfl (by decide)
/-- What comes of a call: a job, and its stacks (none). -/
abbrev Gave (fn : Nat) (args : Array Value) (w : World) (J : JS) (E : Int) : Prop := Calls Try.prog fn args w fun e w' => ∃ a' n' c', e = .returned (.tuple #[jV J (.slice a' n' c'), .int .i64 E]) ∧ Hid (JIn w' a' n' [] ∧ n' ≤ 1024 ∧ Below w.heap.size w w')
theorem gave {fn : Nat} {args : Array Value} {w : World} {R J : JS} {E E' : Int} {n : Nat} (h : Calls Try.prog fn args w fun e w' => ∃ a' n' c', e = .returned (.tuple #[jV R (.slice a' n' c'), .int .i64 E]) ∧ Hid (OwnS w' w.heap.size (.slice a' n' c') R.s ∧ n' ≤ n ∧ Below w.heap.size w w')) (hn : n ≤ 1024) (hR : R = J) (hE : E = E') (hs : J.s = []) : Gave fn args w J E' := by
  subst hR hE
  refine h.mono ?_
  rintro e w' ⟨a', n', c', rfl, H⟩
  have h1 := sts_row H.out.1
  rw [hs] at h1
  exact ⟨a', n', c', rfl, Lib.hid ⟨h1, by have := H.out.2.1; omega, H.out.2.2⟩⟩
theorem aw1 (a : Option Addr) (n c : Nat) (w : World) (h : JIn w a n []) (hn : n ≤ 1024) : Gave 21 #[jV plainJ (.slice a n c), .int .i64 5] w j1 0 := gave (start_im plainJ a n c 5 w h hn) hn ((ca_yes (by decide) plainJ true (startJ 5 plainJ)).2.trans (ch_yes plain_ok (startJ 5 plainJ)).2) ((ca_yes (by decide) plainJ true (startJ 5 plainJ)).1.trans (ch_yes plain_ok (startJ 5 plainJ)).1) rfl
theorem aw2 (a : Option Addr) (n c : Nat) (w : World) (h : JIn w a n []) (hn : n ≤ 1024) : Gave 22 #[jV j1 (.slice a n c), .int .i64 8] w j2 0 := gave (pause_im j1 a n c 8 w h hn) hn ((ca_yes (by decide) j1 true (pauseJ 8 j1)).2.trans (ch_yes j1_ok (pauseJ 8 j1)).2) ((ca_yes (by decide) j1 true (pauseJ 8 j1)).1.trans (ch_yes j1_ok (pauseJ 8 j1)).1) rfl
theorem aw3 (a : Option Addr) (n c : Nat) (w : World) (h : JIn w a n []) (hn : n ≤ 1024) : Gave 23 #[jV j2 (.slice a n c)] w j3 0 := gave (resume_im j2 a n c w h hn) hn (ch_yes j2_ok (resumeJ j2)).2 (ch_yes j2_ok (resumeJ j2)).1 rfl
theorem aw4 (a : Option Addr) (n c : Nat) (w : World) (h : JIn w a n []) (hn : n ≤ 1024) : Gave 21 #[jV j3 (.slice a n c), .int .i64 20] w j4 0 := gave (start_im j3 a n c 20 w h hn) hn ((ca_yes (by decide) j3 true (startJ 20 j3)).2.trans (ch_yes j3_ok (startJ 20 j3)).2) ((ca_yes (by decide) j3 true (startJ 20 j3)).1.trans (ch_yes j3_ok (startJ 20 j3)).1) rfl
theorem aw5 (a : Option Addr) (n c : Nat) (w : World) (h : JIn w a n []) (hn : n ≤ 1024) : Gave 24 #[jV j4 (.slice a n c), .int .i64 26] w zJ 9 := gave (finish_im j4 a n c 26 w h hn) hn ((ca_yes (by decide) j4 false (finishJ j4)).2.trans (ch_not j4_ok (finishJ j4)).2) ((ca_yes (by decide) j4 false (finishJ j4)).1.trans (ch_not j4_ok (finishJ j4)).1) rfl
theorem aw6 (a : Option Addr) (n c : Nat) (w : World) (h : JIn w a n []) (hn : n ≤ 1024) : Gave 24 #[jV j4 (.slice a n c), .int .i64 27] w j6 0 := gave (finish_im j4 a n c 27 w h hn) hn ((ca_yes (by decide) j4 true (finishJ j4)).2.trans (ch_yes j4_ok (finishJ j4)).2) ((ca_yes (by decide) j4 true (finishJ j4)).1.trans (ch_yes j4_ok (finishJ j4)).1) rfl
theorem aw7 (a : Option Addr) (n c : Nat) (w : World) (h : JIn w a n []) (hn : n ≤ 1024) : Gave 25 #[jV j6 (.slice a n c)] w j7 0 := gave (deliver_im j6 a n c w h hn) hn (ch_yes j6_ok (deliverJ j6)).2 (ch_yes j6_ok (deliverJ j6)).1 rfl
theorem aw8 (v : Value) (w : World) : Calls Try.prog 12 #[jV j7 v] w fun e w' => e = .returned (.bool false) ∧ Hid (Below w.heap.size w w') := (open_im j7 v w).mono fun _ _ ⟨e, h⟩ => ⟨e, Lib.hid h⟩
theorem aw9 (v : Value) (w : World) : Calls Try.prog 12 #[jV j6 v] w fun e w' => e = .returned (.bool true) ∧ Hid (Below w.heap.size w w') := (open_im j6 v w).mono fun _ _ ⟨e, h⟩ => ⟨e, Lib.hid h⟩
end Go.Proofs.Ytghlgmlelipjfaa.Job.Im
