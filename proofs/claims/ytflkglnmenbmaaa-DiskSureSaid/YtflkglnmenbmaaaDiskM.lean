/- What stays true of a disk whatever is done. Nothing here walks. -/
import Derived.Test.YtflkglnmenbmaaaDiskL
import Derived.Test.YtflkglnmenbmaaaDiskSure
namespace Go.Proofs.Ytflkglnmenbmaaa.Disk
open Go.RowKit Go.Lib

/-- A disk as the laws meet it: its numbers, its order, how many operations there were. -/
structure Inv (st : DS) (n : Nat) : Prop where
  good : Good st
  sorted : Sorted st.fs
  few : st.fs.length ≤ st.ops
  ops : st.ops ≤ n
theorem Inv.mono {st : DS} {n m : Nat} (h : Inv st n) (hm : n ≤ m) : Inv st m := ⟨h.good, h.sorted, h.few, Nat.le_trans h.ops hm⟩
theorem put_length {l : List DF} {f : DF} : (putF l f).length ≤ l.length + 1 := by
  unfold putF
  rw [ins_length]
  have : (takeF l f.name).length ≤ l.length := List.length_filter_le _ _
  omega
theorem mod_length (g : DF → DF) : ∀ (l : List DF) (s : ByteArray), (modF g l s).length = l.length
  | [], _ => rfl
  | f :: l, s => by
    unfold modF
    split
    · rfl
    · simp [mod_length g l s]
theorem mod_used {g : DF → DF} (hg : ∀ f, (g f).bytes.size ≤ f.bytes.size) : ∀ (l : List DF) (s : ByteArray), usedF (modF g l s) ≤ usedF l
  | [], _ => Nat.le_refl _
  | f :: l, s => by
    have h1 := hg f
    have h2 := mod_used hg l s
    unfold modF
    split
    · simp only [usedF]; omega
    · simp only [usedF]; omega
theorem mod_sure {g : DF → DF} (hg : ∀ f : DF, f.sure ≤ f.bytes.size → (g f).sure ≤ (g f).bytes.size) : ∀ {l : List DF} {s : ByteArray}, (∀ f ∈ l, f.sure ≤ f.bytes.size) → ∀ f ∈ modF g l s, f.sure ≤ f.bytes.size
  | [], _, _ => by intro f hf; cases hf
  | a :: l, s, h => by
    intro f hf
    unfold modF at hf
    split at hf
    · rcases List.mem_cons.1 hf with rfl | hf
      · exact hg a (h a (by simp))
      · exact h f (by simp [hf])
    · rcases List.mem_cons.1 hf with rfl | hf
      · exact h f (by simp)
      · exact mod_sure hg (fun x hx => h x (by simp [hx])) f hf
theorem Good.withFs {st : DS} (h : Good st) {l : List DF} (h1 : usedF l ≤ usedF st.fs) (h2 : ∀ f ∈ l, f.sure ≤ f.bytes.size) (h3 : l.length ≤ st.fs.length) : Good { Disk.opS st with fs := l } := by
  have ho := h.opS
  refine ⟨ho.room, ?_, h2, ?_, ho.last⟩
  · show usedF l ≤ (Disk.opS st).room
    rw [opS_room]
    have := h.fit
    omega
  · show l.length ≤ (Disk.opS st).ops + 1
    rw [opS_ops]
    have := h.few
    omega
theorem Inv.opS {st : DS} {n : Nat} (hg : Good st) (hs : Sorted st.fs) (hf : st.fs.length ≤ st.ops + 1) (ho : st.ops ≤ n) : Inv (Disk.opS st) (n + 1) :=
  ⟨hg.opS, by rw [opS_fs]; exact hs, by rw [opS_fs, opS_ops]; exact hf, by rw [opS_ops]; omega⟩
theorem inv_app {st : DS} {n : Nat} (h : Inv st n) (s b : ByteArray) : Inv (appS st s b) (n + 1) := by
  unfold appS
  split
  · exact h.mono (by omega)
  · split
    · exact h.mono (by omega)
    · split
      · exact h.mono (by omega)
      · rename_i hfit
        exact Inv.opS (h.good.grow s b (by omega) h.few) (sorted_put h.sorted _) (Nat.le_trans put_length (Nat.succ_le_succ h.few)) h.ops
theorem inv_withFs {st : DS} {n : Nat} (h : Inv st n) {l : List DF} (h1 : usedF l ≤ usedF st.fs) (h2 : ∀ f ∈ l, f.sure ≤ f.bytes.size) (h3 : l.length ≤ st.fs.length) (h4 : Sorted l) : Inv { Disk.opS st with fs := l } (n + 1) :=
  ⟨h.good.withFs h1 h2 h3, h4, by
    show l.length ≤ (Disk.opS st).ops
    rw [opS_ops]
    have := h.few
    omega, by
    show (Disk.opS st).ops ≤ n + 1
    rw [opS_ops]
    have := h.ops
    omega⟩
theorem inv_sync {st : DS} {n : Nat} (h : Inv st n) (s : ByteArray) : Inv (syncS st s) (n + 1) := by
  have hop : Inv (Disk.opS st) (n + 1) := Inv.opS h.good h.sorted (Nat.le_succ_of_le h.few) h.ops
  unfold syncS
  split
  · exact h.mono (by omega)
  · split
    · exact h.mono (by omega)
    · split
      · exact inv_withFs h (mod_used (g := surely) (fun f => Nat.le_refl _) _ _) (mod_sure (g := surely) (fun f _ => Nat.le_refl _) h.good.sure) (by rw [mod_length]; exact Nat.le_refl _) (sorted_mod (g := surely) (fun _ => rfl) h.sorted)
      · exact hop
theorem inv_cut {st : DS} {n : Nat} (h : Inv st n) (s : ByteArray) (m : Int) : Inv (cutS st s m) (n + 1) := by
  have hop : Inv (Disk.opS st) (n + 1) := Inv.opS h.good h.sorted (Nat.le_succ_of_le h.few) h.ops
  unfold cutS
  split
  · exact h.mono (by omega)
  · split
    · exact h.mono (by omega)
    · split
      · exact h.mono (by omega)
      · split
        · refine inv_withFs h (mod_used (g := shorter m.toNat) (fun f => ?_) _ _) (mod_sure (g := shorter m.toNat) (fun f hf => ?_) h.good.sure) (by rw [mod_length]; exact Nat.le_refl _) (sorted_mod (g := shorter m.toNat) (fun _ => rfl) h.sorted)
          · show (f.bytes.extract 0 m.toNat).size ≤ _
            rw [ByteArray.size_extract]
            omega
          · show min f.sure m.toNat ≤ (f.bytes.extract 0 m.toNat).size
            rw [ByteArray.size_extract]
            omega
        · exact hop
theorem inv_ren {st : DS} {n : Nat} (h : Inv st n) (a b : ByteArray) : Inv (renS st a b) (n + 1) := by
  have hop : Inv (Disk.opS st) (n + 1) := Inv.opS h.good h.sorted (Nat.le_succ_of_le h.few) h.ops
  cases hl : look st.fs a with
  | none =>
    unfold renS
    rw [hl]
    split
    · exact h.mono (by omega)
    · split
      · exact h.mono (by omega)
      · rw [if_pos (by simp)]
        exact h.mono (by omega)
  | some f =>
    have hf : fileOf st a = f := by unfold fileOf; rw [hl]; rfl
    unfold renS
    rw [hl, hf]
    split
    · exact h.mono (by omega)
    · split
      · exact h.mono (by omega)
      · rw [if_neg (by simp)]
        split
        · have hG := h.good.moved hl b
          have h1 : (takeF st.fs a).length ≤ st.fs.length := List.length_filter_le _ _
          refine ⟨hG, sorted_put (sorted_take h.sorted _) _, ?_, ?_⟩
          · show (putF (takeF st.fs a) (called b f)).length ≤ (Disk.opS st).ops
            rw [opS_ops]
            have := put_length (l := takeF st.fs a) (f := called b f)
            have := h.few
            omega
          · show (Disk.opS st).ops ≤ n + 1
            rw [opS_ops]
            have := h.ops
            omega
        · exact hop
theorem inv_fuse {st : DS} {n : Nat} (h : Inv st n) (m : Int) (half : Bool) (hm : m ≤ 9223372036854775807) : Inv (fuseS st m half) n :=
  ⟨⟨h.good.room, h.good.fit, h.good.sure, h.good.few, by show (max 0 m).toNat ≤ _; omega⟩, h.sorted, h.few, h.ops⟩
theorem inv_crash {st : DS} {n : Nat} (h : Inv st n) (keep : Nat → Option Int) : Inv (crashS st keep) n :=
  ⟨h.good.crash keep, sorted_crashS h.sorted keep, Nat.le_trans (crash_good (keep := keep) st.fs 0 h.good.sure).2.1 h.few, h.ops⟩
theorem inv_do {st : DS} {n : Nat} (h : Inv st n) (a : AC) (hm : a.n ≤ 9223372036854775807) : Inv (doS st a) (n + 1) := by
  unfold doS
  split
  · exact inv_app h _ _
  · split
    · exact inv_sync h _
    · split
      · exact inv_cut h _ _
      · split
        · exact inv_ren h _ _
        · split
          · exact (inv_fuse h _ _ hm).mono (by omega)
          · split
            · exact (inv_crash h _).mono (by omega)
            · exact h.mono (by omega)
theorem inv_new {room : Nat} (h : room ≤ 16777216) : Inv (newS room) 0 := ⟨Good.new h, sorted_nil, Nat.le_refl _, Nat.le_refl _⟩
/-- An act that has nothing to do with a file leaves it as it is. -/
theorem look_do {st : DS} {m : ByteArray} (a : AC) (h1 : a.name ≠ m) (h2 : a.arg ≠ m) (h3 : a.kind ≠ 6) : look (doS st a).fs m = look st.fs m := by
  have hgrow : ∀ b, (grown (fileOf st a.name) b).name = a.name := fun b => by
    unfold grown fileOf
    cases hl : look st.fs a.name with
    | none => rfl
    | some f => exact (look_mem hl).2
  unfold doS
  split
  · unfold appS
    split
    · rfl
    · split
      · rfl
      · split
        · rfl
        · rw [opS_fs]
          exact look_put_ne (by rw [hgrow]; exact h1)
  · split
    · unfold syncS
      split
      · rfl
      · split
        · rfl
        · split
          · exact look_mod_ne (g := surely) (fun _ => rfl) h1 _
          · rw [opS_fs]
    · split
      · unfold cutS
        split
        · rfl
        · split
          · rfl
          · split
            · rfl
            · split
              · exact look_mod_ne (g := shorter a.n.toNat) (fun _ => rfl) h1 _
              · rw [opS_fs]
      · split
        · unfold renS
          split
          · rfl
          · split
            · rfl
            · split
              · rfl
              · split
                · show look (putF (takeF st.fs a.name) (called a.arg (fileOf st a.name))) m = _
                  rw [look_put_ne (by exact h2), look_take_ne h1]
                · rw [opS_fs]
        · split
          · rfl
          · first | (rw [if_neg h3]) | rfl
end Go.Proofs.Ytflkglnmenbmaaa.Disk
