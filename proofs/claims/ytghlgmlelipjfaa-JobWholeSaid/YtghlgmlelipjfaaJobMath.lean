/- A job, without a program: which may be, and what comes of it. -/
import Derived.Test.YtghlgmlelipjfaaGoodsH
namespace Go.Proofs.Ytghlgmlelipjfaa.Job
open Goods (St)

structure JS where
  id : Int
  kd : Int
  ow : Int
  dv : Int
  pb : Int
  ba : Int
  dr : Int
  rn : Int
  cp : Int
  tm : Int
  fe : Int
  s : List St
  st : Int
  sr : Int
  en : Int
  lf : Int
def zJ : JS := ⟨0, 0, 0, 0, 0, 0, 0, 0, 0, 0, 0, [], 0, 0, 0, 0⟩
def Copies (j : JS) : Prop := (j.kd = 4 → 1 ≤ j.cp ∧ j.cp ≤ 10) ∧ (j.kd ≠ 4 → j.cp = 0)
structure Asked (j : JS) : Prop where
  id : 1 ≤ j.id ∧ j.id ≤ 1099511627776
  ow : 1 ≤ j.ow ∧ j.ow ≤ 1099511627776
  pb : 1 ≤ j.pb ∧ j.pb ≤ 1099511627776
  ba : 1 ≤ j.ba ∧ j.ba ≤ 1099511627776
  dr : 1 ≤ j.dr ∧ j.dr ≤ 1099511627776
  tm : 1 ≤ j.tm ∧ j.tm ≤ 1099511627776
  kd : 1 ≤ j.kd ∧ j.kd ≤ 4
  dv : 0 ≤ j.dv ∧ j.dv ≤ 4
  rn : 1 ≤ j.rn ∧ j.rn ≤ 1000
  cp : Copies j
  fe : 0 ≤ j.fe ∧ j.fe ≤ 1152921504606846976
def Locks (j : JS) : Prop := (j.kd = 1 ∨ j.s.length = 0) ∧ Goods.Listed j.s 32
def Waits (j : JS) : Prop := j.sr = 0 ∧ j.en = 0 ∧ 1 ≤ j.lf ∧ j.lf ≤ j.tm
def Runs (j : JS) : Prop := (0 ≤ j.sr ∧ j.sr ≤ 1099511627776) ∧ (1 ≤ j.lf ∧ j.lf ≤ j.tm) ∧ j.en = j.sr + j.lf
def Ended (j : JS) : Prop := (0 ≤ j.sr ∧ j.sr ≤ 1099511627776) ∧ j.sr < j.en ∧ j.en ≤ 2199023255552 ∧ j.lf = 0
def Gone (j : JS) : Prop := j.sr = 0 ∧ j.en = 0 ∧ j.lf = 0
def Stands (j : JS) : Prop := ((j.st = 1 ∨ j.st = 3) ∧ Waits j) ∨ (j.st = 2 ∧ Runs j) ∨ ((j.st = 4 ∨ j.st = 5) ∧ Ended j) ∨ (j.st = 6 ∧ Gone j)
structure Ok (j : JS) : Prop where
  asked : Asked j
  locks : Locks j
  stands : Stands j
open Classical in
noncomputable def chk (j : JS) : Int := if Ok j then 0 else 1
theorem chk_yes {j : JS} (h : Ok j) : chk j = 0 := by unfold chk; rw [if_pos h]
theorem chk_no {j : JS} (h : ¬ Ok j) : chk j = 1 := by unfold chk; rw [if_neg h]
theorem chk_zero {j : JS} (h : chk j = 0) : Ok j := by
  by_cases e : Ok j
  · exact e
  · rw [chk_no e] at h
    cases h
/-! What comes of a change that there may be, or not. -/
open Classical in
noncomputable def chE (j : JS) (b : Bool) : Int := if Ok j then (if b then 0 else 9) else 1
open Classical in
noncomputable def chV (j : JS) (b : Bool) (x : JS) : JS := if Ok j then (if b then x else zJ) else zJ
theorem ch_bad {j : JS} (h : ¬ Ok j) (b : Bool) (x : JS) : chE j b = 1 ∧ chV j b x = zJ := by unfold chE chV; rw [if_neg h, if_neg h]; exact ⟨rfl, rfl⟩
theorem ch_not {j : JS} (h : Ok j) (x : JS) : chE j false = 9 ∧ chV j false x = zJ := by unfold chE chV; rw [if_pos h, if_pos h]; exact ⟨rfl, rfl⟩
theorem ch_yes {j : JS} (h : Ok j) (x : JS) : chE j true = 0 ∧ chV j true x = x := by unfold chE chV; rw [if_pos h, if_pos h]; exact ⟨rfl, rfl⟩
/-! .. at a time. -/
open Classical in
noncomputable def caE (now : Int) (j : JS) (b : Bool) : Int := if 0 ≤ now ∧ now ≤ 1099511627776 then chE j b else 1
open Classical in
noncomputable def caV (now : Int) (j : JS) (b : Bool) (x : JS) : JS := if 0 ≤ now ∧ now ≤ 1099511627776 then chV j b x else zJ
theorem ca_no {now : Int} (h : ¬ (0 ≤ now ∧ now ≤ 1099511627776)) (j : JS) (b : Bool) (x : JS) : caE now j b = 1 ∧ caV now j b x = zJ := by unfold caE caV; rw [if_neg h, if_neg h]; exact ⟨rfl, rfl⟩
theorem ca_yes {now : Int} (h : 0 ≤ now ∧ now ≤ 1099511627776) (j : JS) (b : Bool) (x : JS) : caE now j b = chE j b ∧ caV now j b x = chV j b x := by unfold caE caV; rw [if_pos h, if_pos h]; exact ⟨rfl, rfl⟩
/-! the six changes -/
def startJ (now : Int) (j : JS) : JS := { j with st := 2, sr := now, en := now + j.lf }
def pauseJ (now : Int) (j : JS) : JS := { j with st := 3, sr := 0, en := 0, lf := j.en - now }
def resumeJ (j : JS) : JS := { j with st := 1 }
def finishJ (j : JS) : JS := { j with st := 4, lf := 0 }
def deliverJ (j : JS) : JS := { j with st := 5 }
def cancelJ (j : JS) : JS := { j with st := 6, sr := 0, en := 0, lf := 0 }
def mayStart (j : JS) : Bool := decide (j.st = 1)
def mayPause (now : Int) (j : JS) : Bool := decide (j.st = 2 ∧ j.sr ≤ now ∧ now < j.en)
def mayResume (j : JS) : Bool := decide (j.st = 3)
def mayFinish (now : Int) (j : JS) : Bool := decide (j.st = 2 ∧ j.en ≤ now)
def mayDeliver (j : JS) : Bool := decide (j.st = 4)
def mayCancel (j : JS) : Bool := decide (j.st = 1 ∨ j.st = 2 ∨ j.st = 3)
def openJ (j : JS) : Bool := decide (j.st = 1 ∨ j.st = 2 ∨ j.st = 3 ∨ j.st = 4)
noncomputable def doE (what now : Int) (j : JS) : Int :=
  if what = 1 then caE now j (mayStart j) else if what = 2 then caE now j (mayPause now j) else if what = 3 then chE j (mayResume j) else if what = 4 then caE now j (mayFinish now j) else if what = 5 then chE j (mayDeliver j) else chE j (mayCancel j)
noncomputable def doV (what now : Int) (j : JS) : JS :=
  if what = 1 then caV now j (mayStart j) (startJ now j) else if what = 2 then caV now j (mayPause now j) (pauseJ now j) else if what = 3 then chV j (mayResume j) (resumeJ j) else if what = 4 then caV now j (mayFinish now j) (finishJ j) else if what = 5 then chV j (mayDeliver j) (deliverJ j) else chV j (mayCancel j) (cancelJ j)
theorem do_one (now : Int) (j : JS) : doE 1 now j = caE now j (mayStart j) ∧ doV 1 now j = caV now j (mayStart j) (startJ now j) := ⟨rfl, rfl⟩
theorem do_two (now : Int) (j : JS) : doE 2 now j = caE now j (mayPause now j) ∧ doV 2 now j = caV now j (mayPause now j) (pauseJ now j) := ⟨rfl, rfl⟩
theorem do_three (now : Int) (j : JS) : doE 3 now j = chE j (mayResume j) ∧ doV 3 now j = chV j (mayResume j) (resumeJ j) := ⟨rfl, rfl⟩
theorem do_four (now : Int) (j : JS) : doE 4 now j = caE now j (mayFinish now j) ∧ doV 4 now j = caV now j (mayFinish now j) (finishJ j) := ⟨rfl, rfl⟩
theorem do_five (now : Int) (j : JS) : doE 5 now j = chE j (mayDeliver j) ∧ doV 5 now j = chV j (mayDeliver j) (deliverJ j) := ⟨rfl, rfl⟩
theorem do_more {what : Int} (h : ¬ what = 1 ∧ ¬ what = 2 ∧ ¬ what = 3 ∧ ¬ what = 4 ∧ ¬ what = 5) (now : Int) (j : JS) : doE what now j = chE j (mayCancel j) ∧ doV what now j = chV j (mayCancel j) (cancelJ j) := by
  obtain ⟨h1, h2, h3, h4, h5⟩ := h
  unfold doE doV
  rw [if_neg h1, if_neg h2, if_neg h3, if_neg h4, if_neg h5, if_neg h1, if_neg h2, if_neg h3, if_neg h4, if_neg h5]
  exact ⟨rfl, rfl⟩
theorem ch_cases (j : JS) (b : Bool) (x : JS) : (chE j b = 1 ∧ chV j b x = zJ) ∨ (chE j b = 9 ∧ chV j b x = zJ) ∨ (chE j b = 0 ∧ chV j b x = x ∧ Ok j ∧ b = true) := by
  by_cases h : Ok j
  · cases b with
    | false => exact .inr (.inl (ch_not h x))
    | true => exact .inr (.inr ⟨(ch_yes h x).1, (ch_yes h x).2, h, rfl⟩)
  · exact .inl (ch_bad h b x)
theorem ca_cases (now : Int) (j : JS) (b : Bool) (x : JS) : (caE now j b = 1 ∧ caV now j b x = zJ) ∨ (caE now j b = 9 ∧ caV now j b x = zJ) ∨ (caE now j b = 0 ∧ caV now j b x = x ∧ Ok j ∧ b = true ∧ 0 ≤ now ∧ now ≤ 1099511627776) := by
  by_cases h : 0 ≤ now ∧ now ≤ 1099511627776
  · obtain ⟨e1, e2⟩ := ca_yes h j b x
    rw [e1, e2]
    rcases ch_cases j b x with h1 | h1 | h1
    · exact .inl h1
    · exact .inr (.inl h1)
    · exact .inr (.inr ⟨h1.1, h1.2.1, h1.2.2.1, h1.2.2.2, h⟩)
  · exact .inl (ca_no h j b x)
/-- What is done well: one of six changes. -/
theorem do_cases (what now : Int) (j : JS) : (doE what now j = 1 ∧ doV what now j = zJ) ∨ (doE what now j = 9 ∧ doV what now j = zJ) ∨ (doE what now j = 0 ∧ Ok j ∧
    ((doV what now j = startJ now j ∧ j.st = 1 ∧ 0 ≤ now ∧ now ≤ 1099511627776) ∨ (doV what now j = pauseJ now j ∧ j.st = 2 ∧ j.sr ≤ now ∧ now < j.en) ∨ (doV what now j = resumeJ j ∧ j.st = 3) ∨ (doV what now j = finishJ j ∧ j.st = 2 ∧ j.en ≤ now) ∨ (doV what now j = deliverJ j ∧ j.st = 4) ∨ (doV what now j = cancelJ j ∧ (j.st = 1 ∨ j.st = 2 ∨ j.st = 3)))) := by
  by_cases h1 : what = 1
  · subst h1
    obtain ⟨e1, e2⟩ := do_one now j
    rw [e1, e2]
    rcases ca_cases now j (mayStart j) (startJ now j) with h | h | h
    · exact .inl h
    · exact .inr (.inl h)
    · exact .inr (.inr ⟨h.1, h.2.2.1, .inl ⟨h.2.1, of_decide_eq_true h.2.2.2.1, h.2.2.2.2⟩⟩)
  by_cases h2 : what = 2
  · subst h2
    obtain ⟨e1, e2⟩ := do_two now j
    rw [e1, e2]
    rcases ca_cases now j (mayPause now j) (pauseJ now j) with h | h | h
    · exact .inl h
    · exact .inr (.inl h)
    · exact .inr (.inr ⟨h.1, h.2.2.1, .inr (.inl ⟨h.2.1, of_decide_eq_true h.2.2.2.1⟩)⟩)
  by_cases h3 : what = 3
  · subst h3
    obtain ⟨e1, e2⟩ := do_three now j
    rw [e1, e2]
    rcases ch_cases j (mayResume j) (resumeJ j) with h | h | h
    · exact .inl h
    · exact .inr (.inl h)
    · exact .inr (.inr ⟨h.1, h.2.2.1, .inr (.inr (.inl ⟨h.2.1, of_decide_eq_true h.2.2.2⟩))⟩)
  by_cases h4 : what = 4
  · subst h4
    obtain ⟨e1, e2⟩ := do_four now j
    rw [e1, e2]
    rcases ca_cases now j (mayFinish now j) (finishJ j) with h | h | h
    · exact .inl h
    · exact .inr (.inl h)
    · exact .inr (.inr ⟨h.1, h.2.2.1, .inr (.inr (.inr (.inl ⟨h.2.1, of_decide_eq_true h.2.2.2.1⟩)))⟩)
  by_cases h5 : what = 5
  · subst h5
    obtain ⟨e1, e2⟩ := do_five now j
    rw [e1, e2]
    rcases ch_cases j (mayDeliver j) (deliverJ j) with h | h | h
    · exact .inl h
    · exact .inr (.inl h)
    · exact .inr (.inr ⟨h.1, h.2.2.1, .inr (.inr (.inr (.inr (.inl ⟨h.2.1, of_decide_eq_true h.2.2.2⟩))))⟩)
  obtain ⟨e1, e2⟩ := do_more ⟨h1, h2, h3, h4, h5⟩ now j
  rw [e1, e2]
  rcases ch_cases j (mayCancel j) (cancelJ j) with h | h | h
  · exact .inl h
  · exact .inr (.inl h)
  · exact .inr (.inr ⟨h.1, h.2.2.1, .inr (.inr (.inr (.inr (.inr ⟨h.2.1, of_decide_eq_true h.2.2.2⟩))))⟩)
theorem asked_with {j : JS} (h : Asked j) (a b c d : Int) : Asked { j with st := a, sr := b, en := c, lf := d } := ⟨h.id, h.ow, h.pb, h.ba, h.dr, h.tm, h.kd, h.dv, h.rn, h.cp, h.fe⟩
/-- A job to which something was done may be. -/
theorem start_ok {now : Int} {j : JS} (h : Ok j) (hs : j.st = 1) (hn : 0 ≤ now ∧ now ≤ 1099511627776) : Ok (startJ now j) := by
  refine ⟨asked_with h.asked _ _ _ _, h.locks, .inr (.inl ⟨rfl, hn, ?_, rfl⟩)⟩
  rcases h.stands with ⟨_, k⟩ | ⟨k, _⟩ | ⟨k, _⟩ | ⟨k, _⟩
  · exact k.2.2
  all_goals omega
theorem pause_ok {now : Int} {j : JS} (h : Ok j) (hs : j.st = 2) (hn : j.sr ≤ now ∧ now < j.en) : Ok (pauseJ now j) := by
  refine ⟨asked_with h.asked _ _ _ _, h.locks, .inl ⟨.inr rfl, rfl, rfl, ?_⟩⟩
  show 1 ≤ j.en - now ∧ j.en - now ≤ j.tm
  rcases h.stands with ⟨k, _⟩ | ⟨_, k⟩ | ⟨k, _⟩ | ⟨k, _⟩
  · omega
  · obtain ⟨k1, k2, k3⟩ := k
    omega
  all_goals omega
theorem resume_ok {j : JS} (h : Ok j) (hs : j.st = 3) : Ok (resumeJ j) := by
  refine ⟨asked_with h.asked _ _ _ _, h.locks, .inl ⟨.inl rfl, ?_⟩⟩
  rcases h.stands with ⟨_, k⟩ | ⟨k, _⟩ | ⟨k, _⟩ | ⟨k, _⟩
  · exact k
  all_goals omega
theorem finish_ok {now : Int} {j : JS} (h : Ok j) (hs : j.st = 2) (_ : j.en ≤ now) : Ok (finishJ j) := by
  refine ⟨asked_with h.asked _ _ _ _, h.locks, .inr (.inr (.inl ⟨.inl rfl, ?_⟩))⟩
  have ht := h.asked.tm
  rcases h.stands with ⟨k, _⟩ | ⟨_, k⟩ | ⟨k, _⟩ | ⟨k, _⟩
  · omega
  · obtain ⟨k1, k2, k3⟩ := k
    refine ⟨k1, ?_, ?_, rfl⟩
    · show j.sr < j.en
      omega
    · show j.en ≤ 2199023255552
      omega
  all_goals omega
theorem deliver_ok {j : JS} (h : Ok j) (hs : j.st = 4) : Ok (deliverJ j) := by
  refine ⟨asked_with h.asked _ _ _ _, h.locks, .inr (.inr (.inl ⟨.inr rfl, ?_⟩))⟩
  rcases h.stands with ⟨k, _⟩ | ⟨k, _⟩ | ⟨_, k⟩ | ⟨k, _⟩
  · omega
  · omega
  · exact k
  · omega
theorem ok_bounds {j : JS} (h : Ok j) : 0 ≤ j.lf ∧ j.lf ≤ 1099511627776 ∧ 0 ≤ j.en ∧ j.en ≤ 2199023255552 := by
  have ht := h.asked.tm
  rcases h.stands with ⟨_, k⟩ | ⟨_, k⟩ | ⟨_, k⟩ | ⟨_, k⟩
  · obtain ⟨k1, k2, k3⟩ := k
    omega
  · obtain ⟨k1, k2, k3⟩ := k
    omega
  · obtain ⟨k1, k2, k3, k4⟩ := k
    omega
  · obtain ⟨k1, k2, k3⟩ := k
    omega
theorem cancel_ok {j : JS} (h : Ok j) : Ok (cancelJ j) := ⟨asked_with h.asked _ _ _ _, h.locks, .inr (.inr (.inr ⟨rfl, rfl, rfl, rfl⟩))⟩
end Go.Proofs.Ytghlgmlelipjfaa.Job
