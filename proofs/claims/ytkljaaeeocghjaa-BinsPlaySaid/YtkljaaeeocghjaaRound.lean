/- A region that draws its order inside a round of a range over a function: it may be walked as outside of one (loads taken first where a state of the world is held), if it only ends as it should and defers nothing. -/
import Derived.Deep.RegionHeld3
import Derived.Deep.AppendLies
import Derived.OwnWalkIn
import Derived.RangeFuncCalls
import Derived.OrdersIn
namespace Go.Proofs.Ytkljaaeeocghjaa

section
variable {P : Program} {ops : Array Oper} {Q : Exit → Act → World → Prop} {S : World → Prop}
/-- The region comes to its end. -/
def AtEnd (Q : Exit → Act → World → Prop) (e : Exit) (a : Act) (w : World) : Prop := e = .normal ∧ Q .normal a w
theorem atEnd_in : ¬ LetsOut (AtEnd Q) := fun ⟨_, _, h, _⟩ => by cases h
/-- No operation of it defers. -/
def defersNone (ops : Array Oper) : Bool := ops.toList.all fun o => match o.op with
  | .defer _ => false
  | _ => true
theorem defersNone_at (h : defersNone ops = true) {i : Nat} {o : Oper} (ho : ops[i]? = some o) (c) : o.op ≠ .defer c := fun e => by
  have h1 := List.all_eq_true.1 h o (by rw [Array.mem_toList_iff]; exact Array.mem_of_getElem? ho)
  rw [e] at h1
  cases h1
theorem op_round {lo m : Nat} {o : Oper} (hd : ∀ c, o.op ≠ .defer c) {a : Act} {w : World} {K K' : Act → World → Prop} (hK : ∀ a w, K a w → K' a w) (h : Oper.wp P o a w K (AtEnd Q)) : Oper.wpIn (Fence.wide.inRound lo) m P o a w K' Q := by
  refine ⟨fun _ _ => trivial, ?_⟩
  rw [Oper.semAt_plain _ _ _ hd]
  unfold Oper.wp at h
  generalize (execOp a.eval o).run P w = r at *
  cases r with
  | ok n w' =>
    cases n with
    | value u => exact hK _ _ h
    | skip => exact hK _ _ h
    | defer d => exact hK _ _ h
    | enter f args =>
      refine ⟨fun h0 => (by cases h0), CallsIn.inRound lo (callsIn_wide.2 (Calls.mono h fun e w'' he => ?_))⟩
      cases e with
      | returned u => exact hK _ _ he
      | panicked c => cases he.1
      | outgrown => exact (atEnd_in he).elim
    | row r args =>
      refine ⟨fun h0 => (by cases h0), fun c cs _ => ?_⟩
      obtain ⟨v, w'', he, hs⟩ := h c cs
      exact ⟨v, w'', hK _ _ he, stepsIn_wide.2 hs⟩
    | _ => exact h.elim
  | halt x w' =>
    cases x with
    | panic u => cases h.1
    | _ => exact h.elim
theorem any_round {lo m : Nat} (hd : defersNone ops = true) : ∀ (fuel : Nat) (listed : Array Bool) (a : Act) (w : World), wpAnyH P .any ops (AtEnd Q) S fuel listed a w → wpAnyIn (Fence.wide.inRound lo) m P .any ops Q fuel listed a w
  | 0, _, _, _, h => ⟨h.1, h.2.2⟩
  | fuel + 1, listed, a, w, h => by
    refine ⟨fun h0 => (h.1 h0).2, fun i hi => ?_⟩
    have h1 := h.2 i hi
    unfold wpOp at h1
    unfold wpOpIn
    cases ho : ops[i]? with
    | none =>
      rw [ho] at h1
      exact any_round hd fuel _ _ _ h1.2
    | some o =>
      rw [ho] at h1
      dsimp only at h1 ⊢
      by_cases hw : Region.wanted o (yielded ops a.tmps) = true
      · rw [if_pos hw] at h1 ⊢
        rcases h1 with h1 | h1
        · exact op_round (defersNone_at hd ho) (fun a w hk => any_round hd fuel _ _ _ hk.2) h1
        · exact (atEnd_in h1.2).elim
      · rw [if_neg hw] at h1 ⊢
        exact ⟨fun _ _ => trivial, any_round hd fuel _ _ _ h1.2⟩
/-- A region in a round: a state of the world is chosen, shown where the region begins, and behind each operation that is carried out. -/
theorem wpIn_round_held {lo m id : Nat} {a : Act} {w : World} (S : World → Prop) (hm : P.follows .mixedOrders = true) (hd : defersNone ops = true) (hS : S w.drew)
    (h : S w.drew → wpAnyH P .any ops (AtEnd Q) S ops.size (Array.replicate ops.size false) a w.drew) : (Code.region id ops true).wpIn (Fence.wide.inRound lo) m P Q a w :=
  wpIn_region_any hm (any_round hd _ _ _ _ (h hS))
end
end Go.Proofs.Ytkljaaeeocghjaa
