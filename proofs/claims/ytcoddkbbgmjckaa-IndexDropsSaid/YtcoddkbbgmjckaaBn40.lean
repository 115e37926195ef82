/- A drawn region in which cells are read and, behind that, written: S holds till the first late operation comes (those wait for what reads). -/
import Derived.Test.YtcoddkbbgmjckaaBn03
import Derived.Test.YtcoddkbbgmjckaaBn05
import Derived.Test.YtcoddkbbgmjckaaBn37
namespace Go.Proofs.Ytcoddkbbgmjckaa.RegW
open Go Go.RowKit
set_option linter.unusedVariables false
set_option linter.unusedSimpArgs false

/-- What holds of the world; which operations are late: behind them it need not hold. -/
structure Hold where
  S : World → Prop
  W : List Nat

/-- No late one has come. -/
def early (W : List Nat) (listed : Array Bool) : Bool := W.all fun j => !listed.getD j true

section
variable {P : Program} {ops : Array Oper} {Q : Exit → Act → World → Prop} {md : Region.Mode} {H : Hold}

def wpAnyH (P : Program) (md : Region.Mode) (ops : Array Oper) (Q : Exit → Act → World → Prop) (H : Hold) : Nat → Array Bool → Act → World → Prop
  | 0, listed, a, w => Region.ready md ops listed = [] ∧ Q .normal a w
  | fuel + 1, listed, a, w =>
    (Region.ready md ops listed = [] → Q .normal a w) ∧
    ∀ i ∈ Region.ready md ops listed, wpOp P ops Q i (fun a' w' => (early H.W (listed.setIfInBounds i true) = true → H.S w') ∧ wpAnyH P md ops Q H fuel (listed.setIfInBounds i true) a' w') a w

theorem wpAny_of : ∀ (fuel : Nat) (listed : Array Bool) (a : Act) (w : World), wpAnyH P md ops Q H fuel listed a w → wpAny P md ops Q fuel listed a w
  | 0, _, _, _, h => h
  | fuel + 1, _, _, _, h => ⟨h.1, fun i hi => wpOp_mono (fun a' w' h' => wpAny_of fuel _ a' w' h'.2) (h.2 i hi)⟩

/-- Does an operation wait for another one? -/
def waits (md : Region.Mode) (ops : Array Oper) (j i : Nat) : Bool := match ops[j]? with | none => true | some o => o.after.any fun e => Region.binds md e && e.on == i

theorem waits_un {i j : Nat} {listed : Array Bool} (hw : waits md ops j i = true) (hj : j ∈ Region.ready md ops listed) (hi : listed.getD i true = false) : False := by
  obtain ⟨hjun, oj, hoj, hall⟩ := mem_ready.1 hj
  unfold waits at hw
  rw [hoj] at hw
  obtain ⟨e, he, hb⟩ := Array.any_eq_true'.1 hw
  rw [Bool.and_eq_true, beq_iff_eq] at hb
  have h1 := hall e he hb.1
  rw [hb.2] at h1
  rcases Nat.lt_or_ge i listed.size with h' | h'
  · simp [h'] at hi h1; rw [hi] at h1; cases h1
  · simp [Array.getElem?_eq_none h'] at h1

theorem waits_not {i j : Nat} {listed : Array Bool} (hw : waits md ops j i = true) (hj : j ∈ Region.ready md ops listed) (hi : i ∈ Region.ready md ops listed) : False := by
  obtain ⟨hjun, oj, hoj, hall⟩ := mem_ready.1 hj
  unfold waits at hw
  rw [hoj] at hw
  obtain ⟨e, he, hb⟩ := Array.any_eq_true'.1 hw
  rw [Bool.and_eq_true, beq_iff_eq] at hb
  have h1 := hall e he hb.1
  have h0 := (mem_ready.1 hi).1
  rw [hb.2] at h1
  rcases Nat.lt_or_ge i listed.size with h' | h'
  · simp [h'] at h0 h1; rw [h0] at h1; cases h1
  · simp [Array.getElem?_eq_none h'] at h1

theorem early_less {W : List Nat} {listed : Array Bool} {i : Nat} (h : early W (listed.setIfInBounds i true) = true) : early W listed = true := by
  unfold early at *
  rw [List.all_eq_true] at *
  intro j hj
  have h1 := h j hj
  by_cases hij : i = j
  · subst hij
    rcases Nat.lt_or_ge i listed.size with h' | h'
    · simp [h'] at h1
    · rwa [show listed.setIfInBounds i true = listed from Array.setIfInBounds_eq_of_size_le h'] at h1
  · rwa [getD_set_ne true hij] at h1

theorem early_more {W : List Nat} {listed : Array Bool} {i : Nat} (h : early W listed = true) (hi : i ∉ W) : early W (listed.setIfInBounds i true) = true := by
  unfold early at *
  rw [List.all_eq_true] at *
  intro j hj
  rw [getD_set_ne true (fun e : i = j => hi (by rw [e]; exact hj))]
  exact h j hj

theorem wpAnyH_first {i : Nat} {oi : Oper} {v : Value} {S : World → Prop} (ms : List Nat) (hms : ∀ m ∈ ms, ∃ m', (m' = i ∨ m' ∈ ms) ∧ waits md ops m m' = true) (hi : ops[i]? = some oi) (hsel : ∀ (j : Nat) (o : Oper) cs b, ops[j]? = some o → o.op ≠ .select cs b)
    (hQ : ∀ c a w, Q (.panic c) (a.put oi.dst v) w → Q (.panic c) a w) (hiW : i ∉ H.W) (hpure : (∀ w, S w) ∨ ((∀ w, H.S w → S w) ∧ ∀ j ∈ H.W, ∃ m, (m = i ∨ m ∈ ms) ∧ waits md ops j m = true)) :
    ∀ (fuel : Nat) (listed : Array Bool) (a : Act) (w : World), (∀ m ∈ ms, listed.getD m true = false) →
      (∀ j oj, ops[j]? = some oj → j ≠ i → listed.getD j true = false → (∀ e ∈ oj.after, Region.binds md e = true → e.on ≠ i) → oi.apart ops oj = true) →
      i ∈ Region.ready md ops listed → YieldsIf P ops S oi v a → (early H.W listed = true → H.S w) → ((∀ w, S w) ∨ early H.W listed = true) →
      wpAnyH P md ops Q H fuel (listed.setIfInBounds i true) (a.put oi.dst v) w → wpAnyH P md ops Q H (fuel + 1) listed a w := by
  have hSw : ∀ (listed : Array Bool) (w : World), (early H.W listed = true → H.S w) → ((∀ w, S w) ∨ early H.W listed = true) → S w := fun listed w h1 h2 => by
    rcases h2 with h2 | h2
    · exact h2 w
    · rcases hpure with h3 | h3
      · exact h3 w
      · exact h3.1 w (h1 h2)
  intro fuel
  induction fuel with
  | zero =>
    intro listed a w hun _ hr hy hS hor H'
    refine ⟨fun h => (by rw [h] at hr; cases hr), fun j hj => ?_⟩
    by_cases hji : j = i
    · subst hji; exact hy.wpOp hi (hSw _ _ hS hor) ⟨fun e => hS (early_less e), H'⟩
    · have := ready_mono hj hji
      rw [H'.1] at this
      cases this
  | succ fuel ih =>
    intro listed a w hun hfree hr hy hS hor H'
    refine ⟨fun h => (by rw [h] at hr; cases hr), fun j hj => ?_⟩
    by_cases hji : j = i
    · subst hji; exact hy.wpOp hi (hSw _ _ hS hor) ⟨fun e => hS (early_less e), H'⟩
    · have h1 := H'.2 j (ready_mono hj hji)
      obtain ⟨hjun, oj, hoj, hall⟩ := mem_ready.1 hj
      have hnot : ∀ e ∈ oj.after, Region.binds md e = true → e.on ≠ i := fun e he hb heq => by
        have h1 := hall e he hb
        have h0 := (mem_ready.1 hr).1
        rw [heq] at h1
        rcases Nat.lt_or_ge i listed.size with h' | h'
        · simp [h'] at h0 h1; rw [h0] at h1; cases h1
        · simp [Array.getElem?_eq_none h'] at h1
      have h2 := wpOp_putIf hoj (hfree j oj hoj hji hjun hnot) (fun cs b => hsel i oi cs b hi) (fun cs b => hsel j oj cs b hoj) hQ hy h1
      have hfree' : ∀ k ok, ops[k]? = some ok → k ≠ i → (listed.setIfInBounds j true).getD k true = false →
          (∀ e ∈ ok.after, Region.binds md e = true → e.on ≠ i) → oi.apart ops ok = true := fun k ok hk hki hun hno => by
        refine hfree k ok hk hki ?_ hno
        by_cases hjk : j = k
        · subst hjk; exact hjun
        · rw [getD_set_ne true hjk] at hun; exact hun
      have hno : ∀ m, (m = i ∨ m ∈ ms) → waits md ops j m = true → False := fun m hm hw => by
        rcases hm with rfl | hm
        · exact waits_not hw hj hr
        · exact waits_un hw hj (hun m hm)
      have hun' : ∀ m ∈ ms, (listed.setIfInBounds j true).getD m true = false := fun m hm => by
        rw [getD_set_ne true (fun e : j = m => by
          obtain ⟨m', h3, h4⟩ := hms m hm
          exact hno m' h3 (by rw [e]; exact h4))]
        exact hun m hm
      have hor' : (∀ w, S w) ∨ early H.W (listed.setIfInBounds j true) = true := by
        rcases hor with h3 | h3
        · exact .inl h3
        · rcases hpure with h4 | h4
          · exact .inl h4
          · exact .inr (early_more h3 fun hjW => by
              obtain ⟨m, h5, h6⟩ := h4.2 j hjW
              exact hno m h5 h6)
      refine wpOp_mono (fun a' w' h3 => ?_) h2
      refine ⟨fun e => h3.2.1 (by rw [Array.setIfInBounds_comm _ _ (Ne.symm hji)]; exact early_more e hiW), ih (listed.setIfInBounds j true) a' w' hun' hfree' (ready_mono hr (Ne.symm hji)) h3.1 (fun e => h3.2.1 (by rw [Array.setIfInBounds_comm _ _ (Ne.symm hji)]; exact early_more e hiW)) hor' ?_⟩
      rw [Array.setIfInBounds_comm _ _ hji]
      exact h3.2.2

/-- Take number i first: it yields v in every world that meets S, and all late ones wait for it. -/
theorem wpAnyH_take {i : Nat} {oi : Oper} {v : Value} {fuel : Nat} {listed : Array Bool} {a : Act} {w : World} (hi : ops[i]? = some oi)
    (hs : Region.noSelect ops = true) (hf : Region.free md ops listed i = true) (hr : (Region.ready md ops listed).contains i = true)
    (hQ : ∀ c a w, Q (.panic c) (a.put oi.dst v) w → Q (.panic c) a w) (hy : YieldsIf P ops H.S oi v a) (hS : H.S w)
    (h : wpAnyH P md ops Q H fuel (listed.setIfInBounds i true) (a.put oi.dst v) w) (hW : H.W.all (fun j => waits md ops j i) = true := by kernel_rfl) (he : early H.W listed = true := by kernel_rfl) (hn : H.W.contains i = false := by kernel_rfl) : wpAnyH P md ops Q H (fuel + 1) listed a w :=
  wpAnyH_first [] (by simp) hi (Region.noSelect_spec hs) hQ (by simpa using hn) (.inr ⟨fun _ h => h, fun j hj => ⟨i, .inl rfl, by simpa using (List.all_eq_true.1 hW) j hj⟩⟩) fuel listed a w (by simp) (Region.free_spec hi hf) (by simpa using hr) hy (fun _ => hS) (.inr he) h

/-- Take number i first: the late ones wait for it by way of others (ms). -/
theorem wpAnyH_takeV {i : Nat} {oi : Oper} {v : Value} {fuel : Nat} {listed : Array Bool} {a : Act} {w : World} (ms : List Nat) (hi : ops[i]? = some oi)
    (hs : Region.noSelect ops = true) (hf : Region.free md ops listed i = true) (hr : (Region.ready md ops listed).contains i = true)
    (hQ : ∀ c a w, Q (.panic c) (a.put oi.dst v) w → Q (.panic c) a w) (hy : YieldsIf P ops H.S oi v a) (hS : H.S w)
    (h : wpAnyH P md ops Q H fuel (listed.setIfInBounds i true) (a.put oi.dst v) w) (hW : H.W.all (fun j => (i :: ms).any fun m => waits md ops j m) = true := by kernel_rfl) (hms : ms.all (fun j => (i :: ms).any fun m => waits md ops j m) = true := by kernel_rfl) (hun : ms.all (fun m => !listed.getD m true) = true := by kernel_rfl) (he : early H.W listed = true := by kernel_rfl) (hn : H.W.contains i = false := by kernel_rfl) : wpAnyH P md ops Q H (fuel + 1) listed a w := by
  have hx : ∀ l : List Nat, l.all (fun j => (i :: ms).any fun m => waits md ops j m) = true → ∀ j ∈ l, ∃ m, (m = i ∨ m ∈ ms) ∧ waits md ops j m = true := fun l hl j hj => by
    obtain ⟨m, h1, h2⟩ := List.any_eq_true.1 (List.all_eq_true.1 hl j hj)
    exact ⟨m, List.mem_cons.1 h1, h2⟩
  exact wpAnyH_first ms (hx ms hms) hi (Region.noSelect_spec hs) hQ (by simpa using hn) (.inr ⟨fun _ h => h, hx _ hW⟩) fuel listed a w (fun m hm => by simpa using List.all_eq_true.1 hun m hm) (Region.free_spec hi hf) (by simpa using hr) hy (fun _ => hS) (.inr he) h

/-- Take number i first: it yields v in whatever world. -/
theorem wpAnyH_pure {i : Nat} {oi : Oper} {v : Value} {fuel : Nat} {listed : Array Bool} {a : Act} {w : World} (hi : ops[i]? = some oi)
    (hs : Region.noSelect ops = true) (hf : Region.free md ops listed i = true) (hr : (Region.ready md ops listed).contains i = true)
    (hQ : ∀ c a w, Q (.panic c) (a.put oi.dst v) w → Q (.panic c) a w) (hy : YieldsIf P ops (fun _ => True) oi v a) (hS : H.S w)
    (h : wpAnyH P md ops Q H fuel (listed.setIfInBounds i true) (a.put oi.dst v) w) (hn : H.W.contains i = false := by kernel_rfl) : wpAnyH P md ops Q H (fuel + 1) listed a w :=
  wpAnyH_first [] (by simp) hi (Region.noSelect_spec hs) hQ (by simpa using hn) (.inl fun _ => trivial) fuel listed a w (by simp) (Region.free_spec hi hf) (by simpa using hr) hy (fun _ => hS) (.inl fun _ => trivial) h

/-- The same, behind a late one. -/
theorem wpAnyH_pureL {i : Nat} {oi : Oper} {v : Value} {fuel : Nat} {listed : Array Bool} {a : Act} {w : World} (hi : ops[i]? = some oi)
    (hs : Region.noSelect ops = true) (hf : Region.free md ops listed i = true) (hr : (Region.ready md ops listed).contains i = true)
    (hQ : ∀ c a w, Q (.panic c) (a.put oi.dst v) w → Q (.panic c) a w) (hy : YieldsIf P ops (fun _ => True) oi v a)
    (h : wpAnyH P md ops Q H fuel (listed.setIfInBounds i true) (a.put oi.dst v) w) (he : early H.W listed = false := by kernel_rfl) (hn : H.W.contains i = false := by kernel_rfl) : wpAnyH P md ops Q H (fuel + 1) listed a w :=
  wpAnyH_first [] (by simp) hi (Region.noSelect_spec hs) hQ (by simpa using hn) (.inl fun _ => trivial) fuel listed a w (by simp) (Region.free_spec hi hf) (by simpa using hr) hy (fun e => by rw [he] at e; cases e) (.inl fun _ => trivial) h

/-- All have come up. -/
theorem wpAnyH_done {listed : Array Bool} {a : Act} {w : World} (hr : Region.ready md ops listed = []) (h : Q .normal a w) : ∀ fuel, wpAnyH P md ops Q H fuel listed a w
  | 0 => ⟨hr, h⟩
  | _ + 1 => ⟨fun _ => h, by rw [hr]; simp⟩

def AllReadyH (P : Program) (md : Region.Mode) (ops : Array Oper) (Q : Exit → Act → World → Prop) (H : Hold) (fuel : Nat) (listed : Array Bool) (a : Act) (w : World) (rs : List Nat) : Prop :=
  ∀ i ∈ rs, wpOp P ops Q i (fun a' w' => (early H.W (listed.setIfInBounds i true) = true → H.S w') ∧ wpAnyH P md ops Q H fuel (listed.setIfInBounds i true) a' w') a w

theorem AllReadyH.nil {fuel : Nat} {listed : Array Bool} {a : Act} {w : World} : AllReadyH P md ops Q H fuel listed a w [] := fun _ h => by cases h

/-- An early one: S is shown behind it. -/
theorem AllReadyH.cons {fuel : Nat} {listed : Array Bool} {a : Act} {w : World} {i : Nat} {o : Oper} {rs : List Nat} (ho : ops[i]? = some o)
    (h : ∀ K' : Act → World → Prop, Shut (∀ a w, H.S w → (H.S w → wpAnyH P md ops Q H fuel (listed.setIfInBounds i true) a w) → K' a w) → if Region.wanted o (yielded ops a.tmps) = true then Oper.wp P o a w K' Q else K' (a.put o.dst undef) w)
    (hs : AllReadyH P md ops Q H fuel listed a w rs) : AllReadyH P md ops Q H fuel listed a w (i :: rs) := fun j hj => by
  rcases List.mem_cons.1 hj with rfl | hj
  · exact wpOp_step ho (fun K' hK => h K' (show Shut _ from fun a w hS hW => hK a w ⟨fun _ => hS, hW hS⟩))
  · exact hs j hj

/-- A late one. -/
theorem AllReadyH.late {fuel : Nat} {listed : Array Bool} {a : Act} {w : World} {i : Nat} {o : Oper} {rs : List Nat} (ho : ops[i]? = some o) (hl : early H.W (listed.setIfInBounds i true) = false)
    (h : ∀ K' : Act → World → Prop, Shut (∀ a w, wpAnyH P md ops Q H fuel (listed.setIfInBounds i true) a w → K' a w) → if Region.wanted o (yielded ops a.tmps) = true then Oper.wp P o a w K' Q else K' (a.put o.dst undef) w)
    (hs : AllReadyH P md ops Q H fuel listed a w rs) : AllReadyH P md ops Q H fuel listed a w (i :: rs) := fun j hj => by
  rcases List.mem_cons.1 hj with rfl | hj
  · exact wpOp_step ho (fun K' hK => h K' (show Shut _ from fun a w hW => hK a w ⟨(fun e => by rw [hl] at e; cases e), hW⟩))
  · exact hs j hj

theorem wpAnyH_ready {rs : List Nat} {fuel : Nat} {listed : Array Bool} {a : Act} {w : World} (hr : Region.ready md ops listed = rs) (hne : rs ≠ [])
    (h : AllReadyH P md ops Q H fuel listed a w rs) : wpAnyH P md ops Q H (fuel + 1) listed a w := ⟨fun h0 => absurd (hr ▸ h0) hne, hr ▸ h⟩

theorem wp_region_held_drew {id : Nat} {a : Act} {w : World} (H : Hold) (hm : P.follows .mixedOrders = true) (hS : H.S w.drew)
    (h : H.S w.drew → wpAnyH P .any ops Q H ops.size (Array.replicate ops.size false) a w.drew) : (Code.region id ops true).wp P Q a w :=
  wp_region_any hm (wpAny_of _ _ _ _ (h hS))

end
end Go.Proofs.Ytcoddkbbgmjckaa.RegW

namespace Go.Proofs.Ytcoddkbbgmjckaa.RegW
open Go Go.RowKit
set_option linter.unusedVariables false

section
variable {P : Program} {ops : Array Oper} {Q : Exit → Go.Act → World → Prop} {md : Region.Mode} {H : Hold} {fuel : Nat} {listed L : Array Bool} {a b : Go.Act} {w : World} {oi : Oper} {v : Value}
/-- One that reads nothing. -/
theorem tpw (i : Nat) (h : wpAnyH P md ops Q H fuel L b w) (hi : (ops.toList.drop i).head? = some oi := by rfl) (hs : Region.noSelect ops = true := by kernel_rfl) (hf : Region.free md ops listed i = true := by kernel_rfl) (hr : (Region.ready md ops listed).contains i = true := by kernel_rfl) (hw : Region.wanted oi (yielded ops a.tmps) = true := by rfl)
    (hy : ∀ w, True → (execOp a.eval oi).run P w = .ok (.value v) w := by (intro w h; go_simp); (try with_reducible rfl)) (ha : a.put oi.dst v = b := by first | (simp only [lpq]; rfl) | (simp only [lpq]; done) | rfl) (hL : listed.setIfInBounds i true = L := by first | (simp only [lpq]; rfl) | (simp only [lpq]; done) | rfl) (hS : H.S w := by assumption) (hQ : ∀ c a w, Q (.panic c) (a.put oi.dst v) w → Q (.panic c) a w := by exact fun _ _ _ h => h) (hn : H.W.contains i = false := by kernel_rfl) : wpAnyH P md ops Q H (fuel + 1) listed a w :=
  wpAnyH_pure (opq hi) hs hf hr hQ (Or.inl ⟨hw, hy⟩) hS (by rw [ha, hL]; exact h) hn
/-- One that reads: all late ones wait for it. -/
theorem trw (i : Nat) (h : wpAnyH P md ops Q H fuel L b w) (hi : (ops.toList.drop i).head? = some oi := by rfl) (hs : Region.noSelect ops = true := by kernel_rfl) (hf : Region.free md ops listed i = true := by kernel_rfl) (hr : (Region.ready md ops listed).contains i = true := by kernel_rfl) (hw : Region.wanted oi (yielded ops a.tmps) = true := by rfl)
    (hy : ∀ w, H.S w → (execOp a.eval oi).run P w = .ok (.value v) w := by (intro w h; go_simp); (try with_reducible rfl)) (ha : a.put oi.dst v = b := by first | (simp only [lpq]; rfl) | (simp only [lpq]; done) | rfl) (hL : listed.setIfInBounds i true = L := by first | (simp only [lpq]; rfl) | (simp only [lpq]; done) | rfl) (hS : H.S w := by assumption) (hQ : ∀ c a w, Q (.panic c) (a.put oi.dst v) w → Q (.panic c) a w := by exact fun _ _ _ h => h) (hW : H.W.all (fun j => waits md ops j i) = true := by kernel_rfl) (he : early H.W listed = true := by kernel_rfl) (hn : H.W.contains i = false := by kernel_rfl) : wpAnyH P md ops Q H (fuel + 1) listed a w :=
  wpAnyH_take (opq hi) hs hf hr hQ (Or.inl ⟨hw, hy⟩) hS (by rw [ha, hL]; exact h) hW he hn
/-- One that reads nothing, behind a late one. -/
theorem tlw (i : Nat) (h : wpAnyH P md ops Q H fuel L b w) (hi : (ops.toList.drop i).head? = some oi := by rfl) (hs : Region.noSelect ops = true := by kernel_rfl) (hf : Region.free md ops listed i = true := by kernel_rfl) (hr : (Region.ready md ops listed).contains i = true := by kernel_rfl) (hw : Region.wanted oi (yielded ops a.tmps) = true := by rfl)
    (hy : ∀ w, True → (execOp a.eval oi).run P w = .ok (.value v) w := by (intro w h; go_simp); (try with_reducible rfl)) (ha : a.put oi.dst v = b := by first | (simp only [lpq]; rfl) | (simp only [lpq]; done) | rfl) (hL : listed.setIfInBounds i true = L := by first | (simp only [lpq]; rfl) | (simp only [lpq]; done) | rfl) (hQ : ∀ c a w, Q (.panic c) (a.put oi.dst v) w → Q (.panic c) a w := by exact fun _ _ _ h => h) (he : early H.W listed = false := by kernel_rfl) (hn : H.W.contains i = false := by kernel_rfl) : wpAnyH P md ops Q H (fuel + 1) listed a w :=
  wpAnyH_pureL (opq hi) hs hf hr hQ (Or.inl ⟨hw, hy⟩) (by rw [ha, hL]; exact h) he hn
/-- A late one. -/
theorem ltw (i : Nat) (h : ∀ K : Go.Act → World → Prop, Shut (∀ a w, wpAnyH P md ops Q H fuel L a w → K a w) → if Region.wanted oi (yielded ops a.tmps) = true then Oper.wp P oi a w K Q else K (a.put oi.dst undef) w) (hi : (ops.toList.drop i).head? = some oi := by rfl) (hr : Region.ready md ops listed = [i] := by kernel_rfl) (hl : early H.W (listed.setIfInBounds i true) = false := by kernel_rfl) (hL : listed.setIfInBounds i true = L := by first | (simp only [lpq]; rfl) | (simp only [lpq]; done) | rfl) : wpAnyH P md ops Q H (fuel + 1) listed a w :=
  wpAnyH_ready hr (by simp) (AllReadyH.late (opq hi) hl (fun K hK => h K (by rw [← hL]; exact hK)) AllReadyH.nil)
theorem dnw (h : Q .normal a w) (n : Nat) (hr : Region.ready md ops listed = [] := by kernel_rfl) : wpAnyH P md ops Q H n listed a w := wpAnyH_done hr h n
theorem lsw {m : Nat} {M : Array Bool} (n : Nat) (h : wpAnyH P md ops Q H n L a w) (hn : m = n := by rfl) (hL : M = L := by first | (simp only [rpq, List.replicate]; rfl) | rfl) : wpAnyH P md ops Q H m M a w := by subst hn hL; exact h
end
end Go.Proofs.Ytcoddkbbgmjckaa.RegW

namespace Go.Proofs.Ytcoddkbbgmjckaa
open Go.RowKit
set_option linter.unusedVariables false
set_option linter.unusedSimpArgs false

/-- Where an item lies. -/
def ItAt (w : World) (g o : Nat) (p : KV) : Prop := ∀ j u, (itemC p)[j]? = some u → w.cell? ((⟨g, o, none⟩ : Addr).add j) = some u
abbrev itV (p : KV) : Value := .agg (itemC p).toArray
theorem item_size : (Try.prog.info? 62).map (·.size) = some 8 := by kernel_rfl
theorem item_agg (w : World) : (isAgg 62).run Try.prog w = .ok true w := by go_simp
theorem item_sz (w : World) : (sizeOf 62).run Try.prog w = .ok 8 w := by go_simp
theorem ld_item {oi : Oper} {ρ : Operand → Value} (x : Operand) (ho : oi.op = .load 62 x) {g o : Nat} (hx : ρ x = .pointer (some ⟨g, o, none⟩)) {p : KV} {w : World} (hc : ItAt w g o p) : (execOp ρ oi).run Try.prog w = .ok (.value (itV p)) w := by
  have h1 := load_run w ⟨g, o, none⟩ (itemC p) 8 (itemC_len p) hc
  unfold execOp
  simp only [ho, hx, Instr.loadAt, Instr.sureAddr, loadVar, Sem.run_bind, Sem.run_pure, Result.andThen_ok, item_agg, item_sz, loadCells, h1, if_true]
theorem st_item {ops : Array Oper} {E : Prop} {o : Oper} {a : Go.Act} {w : World} {K : Go.Act → World → Prop} {Q : Exit → Go.Act → World → Prop} {g off n cap : Nat} {ls : List KV} (h : RowW w g off n cap ls) (k : Nat) (hk : k < n) (p : KV) (x y : Operand) (ho : o.op = .store 62 x y)
    (hx : a.eval x = .pointer (some ⟨g, off + k * 8, none⟩)) (hy : a.eval y = itV p) (hK : K (a.put o.dst undef) (w.setCells g (off + k * 8) (itemC p))) (hgd : o.guard = none := by rfl) : if Region.wanted o (yielded ops a.tmps) = true then o.wp Try.prog a w K Q else E := by
  rw [if_pos (show Region.wanted o (yielded ops a.tmps) = true by simp [Region.wanted, hgd])]
  have h1 := h.store k hk p
  have h8 : (itemC p).length = 8 := itemC_len p
  obtain ⟨vs, hvs⟩ : ∃ vs, itemC p = vs := ⟨_, rfl⟩
  unfold itV at hy
  rw [hvs] at h1 hK hy h8
  unfold Oper.wp execOp
  simp only [ho, hx, hy, Instr.storeAt, Instr.sureAddr, storeVar, Value.cells, Sem.run_bind, Sem.run_pure, Result.andThen_ok, item_sz, List.size_toArray, h8, h1]
  (try simp [h8, h1])
  exact hK
end Go.Proofs.Ytcoddkbbgmjckaa
