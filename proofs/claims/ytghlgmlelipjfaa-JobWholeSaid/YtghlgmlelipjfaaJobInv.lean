/- What holds of a job while things are done to it: it runs for its time in all. -/
import Derived.Test.YtghlgmlelipjfaaJobAw
namespace Go.Proofs.Ytghlgmlelipjfaa.Job
open Go.RowKit Go.Lib
open Goods (St Sts OwnS)

structure Inv (J : JS) (T now ran : Int) : Prop where
  ok : Ok J
  tm : J.tm = T
  s : J.s = []
  r0 : 0 ≤ ran
  r1 : ran ≤ T
  n0 : 0 ≤ now
  wait : J.st = 1 ∨ J.st = 3 → J.lf = T - ran
  run : J.st = 2 → J.lf = T - ran ∧ J.sr ≤ now
theorem Inv.later {J : JS} {T now now' ran : Int} (h : Inv J T now ran) (hn : now ≤ now') : Inv J T now' ran := ⟨h.ok, h.tm, h.s, h.r0, h.r1, by have := h.n0; omega, h.wait, fun e => ⟨(h.run e).1, by have := (h.run e).2; omega⟩⟩
/-- What may come of what is done: it is refused, paused, ended, or none of these. -/
theorem inv_step {J : JS} {T now ran : Int} (what : Int) (h : Inv J T now ran) :
    ((doE what now J ≠ 0) ∧ doV what now J = zJ) ∨
    (doE what now J = 0 ∧ J.st = 2 ∧ (doV what now J).st = 3 ∧ (doV what now J).lf = T - (ran + now - J.sr) ∧ 0 ≤ ran + now - J.sr ∧ ran + now - J.sr ≤ T ∧ Inv (doV what now J) T now (ran + now - J.sr)) ∨
    (doE what now J = 0 ∧ J.st = 2 ∧ (doV what now J).st = 4 ∧ ran + J.en - J.sr = T ∧ J.en ≤ now ∧ Inv (doV what now J) T now ran) ∨
    (doE what now J = 0 ∧ (J.st = 1 ∨ J.st = 2 ∨ J.st = 3 ∨ J.st = 4) ∧ ¬ (doV what now J).st = 3 ∧ ¬ (doV what now J).st = 4 ∧ Inv (doV what now J) T now ran) := by
  have ht := h.tm
  have h0 := h.r0
  have h1 := h.r1
  have hn := h.n0
  rcases do_cases what now J with ⟨e, v⟩ | ⟨e, v⟩ | ⟨e, ho, k⟩
  · exact .inl ⟨by omega, v⟩
  · exact .inl ⟨by omega, v⟩
  rw [e]
  right
  rcases k with ⟨v, hs, h2⟩ | ⟨v, hs, h2⟩ | ⟨v, hs⟩ | ⟨v, hs, h2⟩ | ⟨v, hs⟩ | ⟨v, hs⟩
  · rw [v]
    have hw := h.wait (.inl hs)
    exact .inr (.inr ⟨rfl, .inl hs, by show ¬ (2 : Int) = 3; omega, by show ¬ (2 : Int) = 4; omega, start_ok ho hs h2, ht, h.s, h0, h1, hn, fun x => by exfalso; have : (2 : Int) = 1 ∨ (2 : Int) = 3 := x; omega, fun _ => ⟨hw, Int.le_refl _⟩⟩)
  · rw [v]
    obtain ⟨hr1, hr2⟩ := h.run hs
    have hst := (ho.stands)
    have hen : J.en = J.sr + J.lf ∧ 1 ≤ J.lf := by
      rcases hst with ⟨k, _⟩ | ⟨_, k⟩ | ⟨k, _⟩ | ⟨k, _⟩
      · omega
      · obtain ⟨_, k2, k3⟩ := k
        omega
      · omega
      · omega
    have e2 : J.en - now = T - (ran + now - J.sr) := by omega
    exact .inl ⟨rfl, hs, rfl, e2, by omega, by omega, pause_ok ho hs h2, ht, h.s, by omega, by omega, hn, fun _ => e2, fun x => by exfalso; have : (3 : Int) = 2 := x; omega⟩
  · rw [v]
    have hw := h.wait (.inr hs)
    exact .inr (.inr ⟨rfl, .inr (.inr (.inl hs)), by show ¬ (1 : Int) = 3; omega, by show ¬ (1 : Int) = 4; omega, resume_ok ho hs, ht, h.s, h0, h1, hn, fun _ => hw, fun x => by exfalso; have : (1 : Int) = 2 := x; omega⟩)
  · rw [v]
    obtain ⟨hr1, hr2⟩ := h.run hs
    have hen : J.en = J.sr + J.lf := by
      rcases ho.stands with ⟨k, _⟩ | ⟨_, k⟩ | ⟨k, _⟩ | ⟨k, _⟩
      · omega
      · exact k.2.2
      · omega
      · omega
    exact .inr (.inl ⟨rfl, hs, rfl, by omega, h2, finish_ok ho hs h2, ht, h.s, h0, h1, hn, fun x => by exfalso; have : (4 : Int) = 1 ∨ (4 : Int) = 3 := x; omega, fun x => by exfalso; have : (4 : Int) = 2 := x; omega⟩)
  · rw [v]
    exact .inr (.inr ⟨rfl, .inr (.inr (.inr hs)), by show ¬ (5 : Int) = 3; omega, by show ¬ (5 : Int) = 4; omega, deliver_ok ho hs, ht, h.s, h0, h1, hn, fun x => by exfalso; have : (5 : Int) = 1 ∨ (5 : Int) = 3 := x; omega, fun x => by exfalso; have : (5 : Int) = 2 := x; omega⟩)
  · rw [v]
    exact .inr (.inr ⟨rfl, by omega, by show ¬ (6 : Int) = 3; omega, by show ¬ (6 : Int) = 4; omega, cancel_ok ho, ht, h.s, h0, h1, hn, fun x => by exfalso; have : (6 : Int) = 1 ∨ (6 : Int) = 3 := x; omega, fun x => by exfalso; have : (6 : Int) = 2 := x; omega⟩)
theorem inv_start {T : Int} (h1 : 1 ≤ T) (h2 : T ≤ 65536) : Inv { Im.plainJ with tm := T, lf := T } T 0 0 := by
  have hp := Im.plain_ok
  refine ⟨⟨⟨hp.asked.id, hp.asked.ow, hp.asked.pb, hp.asked.ba, hp.asked.dr, ⟨h1, by show T ≤ 1099511627776; omega⟩, hp.asked.kd, hp.asked.dv, hp.asked.rn, hp.asked.cp, hp.asked.fe⟩, hp.locks, .inl ⟨.inl rfl, rfl, rfl, h1, Int.le_refl _⟩⟩, rfl, rfl, Int.le_refl _, by omega, Int.le_refl _, fun _ => by show T = T - 0; omega, fun x => by exfalso; have : (1 : Int) = 2 := x; omega⟩
theorem inv_bounds {J : JS} {T now ran : Int} (h : Inv J T now ran) (hT : T ≤ 65536) : 0 ≤ ran ∧ ran ≤ 65536 ∧ 0 ≤ J.en ∧ J.en ≤ 2199023255552 ∧ 0 ≤ J.lf := by
  have h1 := ok_bounds h.ok
  have := h.r0
  have := h.r1
  omega
theorem inv_sr {J : JS} {T now ran : Int} (h : Inv J T now ran) (hs : J.st = 2) : 0 ≤ J.sr ∧ J.sr ≤ 1099511627776 := by
  rcases h.ok.stands with ⟨k, _⟩ | ⟨_, k⟩ | ⟨k, _⟩ | ⟨k, _⟩
  · omega
  · exact k.1
  · omega
  · omega
theorem jin_none (w : World) (a : Option Addr) : JIn w a 0 [] := ⟨rfl, fun i t h => by cases h⟩
theorem and_65535 (x : Int) : ∃ m : Int, 0 ≤ m ∧ m ≤ 65535 ∧ bits .and .i64 x 65535 = m := by
  have h : (BitVec.ofInt 64 x).toNat &&& 65535 ≤ 65535 := Nat.and_le_right
  refine ⟨(((BitVec.ofInt 64 x).toNat &&& 65535 : Nat) : Int), by omega, by omega, ?_⟩
  show IntKind.i64.wrap ((BitVec.ofInt 64 x &&& BitVec.ofInt 64 65535).toNat : Int) = _
  rw [BitVec.toNat_and, show (BitVec.ofInt 64 65535).toNat = 65535 from rfl]
  generalize (BitVec.ofInt 64 x).toNat &&& 65535 = q at h ⊢
  simp [IntKind.wrap, IntKind.bits, IntKind.signed]
  omega
end Go.Proofs.Ytghlgmlelipjfaa.Job
