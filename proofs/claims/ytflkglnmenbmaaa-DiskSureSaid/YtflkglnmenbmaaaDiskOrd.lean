/- Names rise: the order of texts; a disk's files stay in it, each name once. Nothing here speaks of a program. -/
import Derived.Test.YtflkglnmenbmaaaDiskMath
namespace Go.Proofs.Ytflkglnmenbmaaa.Disk

theorem bl_nil (x : List UInt8) : Op.bytesLess x [] = false := by cases x <;> rfl
theorem bl_cons (a b : UInt8) (x y : List UInt8) : Op.bytesLess (a :: x) (b :: y) = true ↔ a.toNat < b.toNat ∨ (a = b ∧ Op.bytesLess x y = true) := by
  rw [Op.bytesLess]
  simp [UInt8.lt_iff_toNat_lt]
theorem bl_irrefl : ∀ x : List UInt8, Op.bytesLess x x = false
  | [] => rfl
  | a :: x => by
    have ih := bl_irrefl x
    apply Bool.eq_false_iff.2
    intro h
    rcases (bl_cons a a x x).1 h with h | ⟨_, h⟩
    · omega
    · rw [ih] at h; cases h
theorem bl_trans : ∀ x y z : List UInt8, Op.bytesLess x y = true → Op.bytesLess y z = true → Op.bytesLess x z = true
  | _, [], _, h, _ => by rw [bl_nil] at h; cases h
  | _, _ :: _, [], _, k => by rw [bl_nil] at k; cases k
  | [], _ :: _, _ :: _, _, _ => rfl
  | a :: x, b :: y, c :: z, h, k => by
    rw [bl_cons] at h k ⊢
    rcases h with h | ⟨rfl, h⟩
    · rcases k with k | ⟨rfl, k⟩
      · left; omega
      · left; exact h
    · rcases k with k | ⟨rfl, k⟩
      · left; exact k
      · right; exact ⟨rfl, bl_trans x y z h k⟩
theorem bl_total : ∀ x y : List UInt8, Op.bytesLess x y = false → x ≠ y → Op.bytesLess y x = true
  | [], [], _, h => absurd rfl h
  | _ :: _, [], _, _ => rfl
  | [], _ :: _, h, _ => by cases h
  | a :: x, b :: y, h, hne => by
    rw [bl_cons]
    by_cases e : a = b
    · subst e
      right
      refine ⟨rfl, bl_total x y ?_ (fun e => hne (by rw [e]))⟩
      apply Bool.eq_false_iff.2
      intro h'
      rw [Bool.eq_false_iff] at h
      exact h ((bl_cons a a x y).2 (.inr ⟨rfl, h'⟩))
    · left
      rw [Bool.eq_false_iff] at h
      have h1 : ¬ a.toNat < b.toNat := fun h' => h ((bl_cons a b x y).2 (.inl h'))
      have h2 : a.toNat ≠ b.toNat := fun h' => e (UInt8.toNat_inj.1 h')
      omega
theorem less_irrefl (a : ByteArray) : less a a = false := bl_irrefl _
theorem less_trans {a b c : ByteArray} (h : less a b = true) (k : less b c = true) : less a c = true := bl_trans _ _ _ h k
theorem toList_inj {a b : ByteArray} (h : a.toList = b.toList) : a = b := by
  rw [ByteArray.toList_eq, ByteArray.toList_eq] at h
  apply ByteArray.ext
  exact Array.toList_inj.1 h
theorem less_total {a b : ByteArray} (h : less a b = false) (hne : a ≠ b) : less b a = true := bl_total _ _ h (fun e => hne (toList_inj e))
theorem less_ne {a b : ByteArray} (h : less a b = true) : a ≠ b := by
  rintro rfl
  rw [less_irrefl] at h
  cases h
/-- The files rise by their names. -/
def Sorted (l : List DF) : Prop := l.Pairwise fun f g => less f.name g.name = true
theorem sorted_nil : Sorted [] := List.Pairwise.nil
theorem sorted_take {l : List DF} (h : Sorted l) (s : ByteArray) : Sorted (takeF l s) := h.sublist List.filter_sublist
theorem sorted_ins {f : DF} : ∀ {l : List DF}, Sorted l → (∀ g ∈ l, g.name ≠ f.name) → Sorted (ins f l)
  | [], _, _ => by simp [ins, Sorted]
  | g :: l, h, hne => by
    have hp := List.pairwise_cons.1 h
    unfold ins
    split
    · rename_i hl
      refine List.pairwise_cons.2 ⟨fun x hx => ?_, h⟩
      rcases List.mem_cons.1 hx with rfl | hx
      · exact hl
      · exact less_trans hl (hp.1 x hx)
    · rename_i hl
      have hgf : less g.name f.name = true := less_total (by simpa using hl) (fun e => hne g (by simp) e.symm)
      refine List.pairwise_cons.2 ⟨fun x hx => ?_, sorted_ins hp.2 (fun y hy => hne y (by simp [hy]))⟩
      rcases mem_ins hx with rfl | hx
      · exact hgf
      · exact hp.1 x hx
theorem takeF_ne {l : List DF} {s : ByteArray} : ∀ g ∈ takeF l s, g.name ≠ s := fun g hg => by simpa using (List.mem_filter.1 hg).2
theorem sorted_put {l : List DF} (h : Sorted l) (f : DF) : Sorted (putF l f) := sorted_ins (sorted_take h _) takeF_ne
theorem sorted_mod {l : List DF} {g : DF → DF} (hg : ∀ f, (g f).name = f.name) {s : ByteArray} (h : Sorted l) : Sorted (modF g l s) := by
  induction l with
  | nil => exact h
  | cons a l ih =>
    have hp := List.pairwise_cons.1 h
    have hmem : ∀ x ∈ modF g l s, ∃ y ∈ l, x.name = y.name := by
      clear ih h hp
      induction l with
      | nil => intro x hx; cases hx
      | cons b l ih =>
        intro x hx
        unfold modF at hx
        split at hx
        · rcases List.mem_cons.1 hx with rfl | hx
          · exact ⟨b, by simp, hg b⟩
          · exact ⟨x, by simp [hx], rfl⟩
        · rcases List.mem_cons.1 hx with rfl | hx
          · exact ⟨x, by simp, rfl⟩
          · obtain ⟨y, h1, h2⟩ := ih x hx
            exact ⟨y, by simp [h1], h2⟩
    unfold modF
    split
    · exact List.pairwise_cons.2 ⟨fun x hx => by rw [hg]; exact hp.1 x hx, hp.2⟩
    · refine List.pairwise_cons.2 ⟨fun x hx => ?_, ih hp.2⟩
      obtain ⟨y, h1, h2⟩ := hmem x hx
      rw [h2]
      exact hp.1 y h1
theorem crash_mem {keep : Nat → Option Int} : ∀ {l : List DF} {i : Nat} {x : DF}, x ∈ crashF keep i l → ∃ y ∈ l, x.name = y.name
  | [], i, x, h => by cases h
  | f :: l, i, x, h => by
    have h : x ∈ piece f (kept f (keep i)) ++ crashF keep (i + 1) l := h
    rcases List.mem_append.1 h with h | h
    · unfold piece at h
      split at h
      · have h' := List.mem_singleton.1 h
        exact ⟨f, by simp, by rw [h']⟩
      · cases h
    · obtain ⟨y, h1, h2⟩ := crash_mem h
      exact ⟨y, by simp [h1], h2⟩
theorem sorted_crash {keep : Nat → Option Int} : ∀ {l : List DF} {i : Nat}, Sorted l → Sorted (crashF keep i l)
  | [], i, _ => sorted_nil
  | f :: l, i, h => by
    have hp := List.pairwise_cons.1 h
    have ih := sorted_crash (keep := keep) (i := i + 1) hp.2
    show Sorted (piece f (kept f (keep i)) ++ crashF keep (i + 1) l)
    unfold piece
    split
    · refine List.pairwise_cons.2 ⟨fun x hx => ?_, ih⟩
      obtain ⟨y, h1, h2⟩ := crash_mem hx
      rw [h2]
      exact hp.1 y h1
    · exact ih
theorem opS_fs' (st : DS) : (opS st).fs = st.fs := by
  unfold opS
  split
  · rfl
  · split <;> rfl
theorem sorted_app {st : DS} (h : Sorted st.fs) (s b : ByteArray) : Sorted (appS st s b).fs := by
  unfold appS
  split
  · exact h
  · split
    · exact h
    · split
      · exact h
      · rw [opS_fs']; exact sorted_put h _
theorem sorted_sync {st : DS} (h : Sorted st.fs) (s : ByteArray) : Sorted (syncS st s).fs := by
  unfold syncS
  split
  · exact h
  · split
    · exact h
    · split
      · exact sorted_mod (g := surely) (fun _ => rfl) h
      · rw [opS_fs']; exact h
theorem sorted_cut {st : DS} (h : Sorted st.fs) (s : ByteArray) (n : Int) : Sorted (cutS st s n).fs := by
  unfold cutS
  split
  · exact h
  · split
    · exact h
    · split
      · exact h
      · split
        · exact sorted_mod (g := shorter n.toNat) (fun _ => rfl) h
        · rw [opS_fs']; exact h
theorem sorted_ren {st : DS} (h : Sorted st.fs) (a b : ByteArray) : Sorted (renS st a b).fs := by
  unfold renS
  split
  · exact h
  · split
    · exact h
    · split
      · exact h
      · split
        · exact sorted_put (sorted_take h _) _
        · rw [opS_fs']; exact h
theorem sorted_crashS {st : DS} (h : Sorted st.fs) (keep : Nat → Option Int) : Sorted (crashS st keep).fs := sorted_crash h

/-- What is looked for is found where nothing else was put. -/
theorem look_ins_ne {f : DF} {s : ByteArray} (hne : f.name ≠ s) : ∀ l : List DF, look (ins f l) s = look l s
  | [] => by simp [ins, look, hne]
  | g :: l => by
    unfold ins
    split
    · simp [look, hne]
    · simp only [look]
      rw [look_ins_ne hne l]
theorem look_take_ne {s t : ByteArray} (hne : t ≠ s) : ∀ l : List DF, look (takeF l t) s = look l s
  | [] => rfl
  | g :: l => by
    by_cases e : g.name = t
    · have h1 : takeF (g :: l) t = takeF l t := by simp [takeF, e]
      have h2 : g.name ≠ s := by rw [e]; exact hne
      rw [h1, look_take_ne hne l]
      simp [look, h2]
    · have h1 : takeF (g :: l) t = g :: takeF l t := by simp [takeF, e]
      rw [h1]
      simp only [look]
      rw [look_take_ne hne l]
theorem look_put_ne {l : List DF} {f : DF} {s : ByteArray} (hne : f.name ≠ s) : look (putF l f) s = look l s := by
  unfold putF
  rw [look_ins_ne hne, look_take_ne hne]
theorem look_mod_ne {g : DF → DF} (hg : ∀ f, (g f).name = f.name) {s t : ByteArray} (hne : t ≠ s) : ∀ l : List DF, look (modF g l t) s = look l s
  | [] => rfl
  | f :: l => by
    unfold modF
    split
    · rename_i e
      simp [look, hg, e, hne]
    · simp only [look]
      rw [look_mod_ne hg hne l]
theorem look_none {l : List DF} {s : ByteArray} (h : ∀ f ∈ l, f.name ≠ s) : look l s = none := by
  induction l with
  | nil => rfl
  | cons a l ih =>
    unfold look
    rw [if_neg (h a (by simp)), ih (fun f hf => h f (by simp [hf]))]
theorem look_ins {f : DF} : ∀ {l : List DF}, (∀ g ∈ l, g.name ≠ f.name) → look (ins f l) f.name = some f
  | [], _ => by simp [ins, look]
  | g :: l, h => by
    unfold ins
    split
    · simp [look]
    · have hg := h g (by simp)
      simp only [look]
      rw [if_neg hg]
      exact look_ins (fun x hx => h x (by simp [hx]))
theorem look_put (l : List DF) (f : DF) : look (putF l f) f.name = some f := look_ins takeF_ne
theorem look_mod {g : DF → DF} (hg : ∀ f, (g f).name = f.name) {s : ByteArray} : ∀ {l : List DF} {f : DF}, look l s = some f → look (modF g l s) s = some (g f)
  | [], f, h => by cases h
  | a :: l, f, h => by
    unfold look at h
    unfold modF
    split at h
    · rename_i e
      obtain rfl := Option.some.inj h
      rw [if_pos e]
      unfold look
      rw [if_pos (by rw [hg]; exact e)]
    · rename_i e
      rw [if_neg e]
      unfold look
      rw [if_neg e]
      exact look_mod hg h
/-- What is left of a file behind a crash. -/
theorem look_crash {keep : Nat → Option Int} {s : ByteArray} : ∀ {l : List DF} {i : Nat} {f : DF}, Sorted l → look l s = some f → ∃ k : Option Int, look (crashF keep i l) s = if 0 < kept f k then some ⟨f.name, f.bytes.extract 0 (kept f k), kept f k⟩ else none
  | [], i, f, _, h => by cases h
  | a :: l, i, f, hs, h => by
    have hp := List.pairwise_cons.1 hs
    show ∃ k : Option Int, look (piece a (kept a (keep i)) ++ crashF keep (i + 1) l) s = _
    unfold look at h
    split at h
    · rename_i e
      obtain rfl := Option.some.inj h
      refine ⟨keep i, ?_⟩
      have hrest : look (crashF keep (i + 1) l) s = none := look_none (fun x hx => by
        obtain ⟨y, h1, h2⟩ := crash_mem hx
        rw [h2]
        have := less_ne (hp.1 y h1)
        rw [e] at this
        exact fun e' => this e'.symm)
      unfold piece
      split
      · simp [look, e]
      · exact hrest
    · rename_i e
      obtain ⟨k, hk⟩ := look_crash (keep := keep) (i := i + 1) hp.2 h
      refine ⟨k, ?_⟩
      rw [← hk]
      unfold piece
      split
      · simp [look, e]
      · rfl
end Go.Proofs.Ytflkglnmenbmaaa.Disk
