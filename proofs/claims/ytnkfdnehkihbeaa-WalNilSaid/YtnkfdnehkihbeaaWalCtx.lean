/- A law's log and disk on their way; the laws' Open. -/
import Derived.Test.YtnkfdnehkihbeaaWalTwoB
import Derived.Test.YtnkfdnehkihbeaaWalHelpB
import Derived.Test.YtnkfdnehkihbeaaWalAwake
import Derived.Test.YtnkfdnehkihbeaaQueRows
import Derived.Test.YtnkfdnehkihbeaaWalProgB
namespace Go.Proofs.Ytnkfdnehkihbeaa
open Go.RowKit
set_option linter.unusedVariables false
set_option linter.unusedSimpArgs false

abbrev nmA : ByteArray := ⟨#[97]⟩

/-- A law that began in W has a log, on a disk; all that W had is as it was. -/
structure Ctx (W w : World) (j d : Nat) (D : Dsk) (n : Int) (Z : Nat → Prop) : Prop where
  lg : Lg w j d D nmA n Z
  low : Below W.heap.size W w
  all : ∀ k, k < W.heap.size → Z k
  new : W.heap.size ≤ j

section
variable {W w w' : World} {j d : Nat} {D D' : Dsk} {n m : Int} {Z : Nat → Prop}

theorem Ctx.below (h : Ctx W w j d D n Z) (hb : Below w.heap.size w w') : Ctx W w' j d D n Z :=
  ⟨h.lg.below hb, h.low.trans (hb.mono h.low.size), h.all, h.new⟩

theorem Ctx.did (h : Ctx W w j d D n Z) (hd : Did w w' d D' Z) : Ctx W w' j d D' n Z :=
  ⟨h.lg.did hd, below_keeps h.low hd.2 h.all h.low.size, h.all, h.new⟩

theorem Ctx.ldid (h : Ctx W w j d D n Z) (hd : LDid w w' j d D' nmA m Z) : Ctx W w' j d D' m Z :=
  ⟨hd.1, below_keeps h.low hd.2 (fun k hk => ⟨h.all k hk, fun e => by have := h.new; omega⟩) h.low.size, h.all, h.new⟩

/-- What came in, in the world of now, for the log. -/
theorem Ctx.recs (h : Ctx W w j d D n Z) {A : Option Addr} {len cap : Nat} {ls : List (List UInt8)} (hr : Recs W (· < W.heap.size) A len cap ls) : Recs w Z A len cap ls :=
  (hr.below h.low (Nat.le_refl _)).mono h.all
end

/-- Open of the log's file on a disk of two files. -/
theorem open_two (w : World) (d : Nat) (x : Two) (Z : Nat → Prop) (h : Dk w d (dk x none false) Z) :
    Calls Try.prog 17 #[dptr d, .string nmA] w fun e w' => ∃ D', Opened w w' d D' nmA Z e (scanL (x false).1).1 ∧ ((scanL (x false).1).2 = (x false).1.length → D' = dk x none false) := by
  obtain ⟨h1, h2, h3⟩ := told_dk x none false
  have hO := open_any w d (dk x none false) Z h (nmF false) (by decide) h3 (fun hlt => by
    unfold Dsk.told at hlt ⊢
    rw [h1] at hlt ⊢
    rw [h2] at hlt
    exact cut_dk x false _ hlt)
  refine hO.mono fun e w' ho => ⟨(dk x none false).trim (nmF false), ?_, fun he => ?_⟩
  · have e1 : ((dk x none false).told (nmF false)).1 = (scanL (x false).1).1 := by unfold Dsk.told; rw [h1]
    rw [e1] at ho
    exact ho
  · unfold Dsk.trim Dsk.told
    rw [h1, h2, he, if_neg (by omega)]

/-- The first log of a law. -/
theorem ctx_open {W w w' : World} {j d : Nat} {D : Dsk} {n : Int} {Z' : Nat → Prop} (hl : Lg w' j d D nmA n Z') (hz : ∀ k, k < W.heap.size → Z' k) (hj : ∀ k, k < W.heap.size → k ≠ j) (hb : Below W.heap.size W w) (hk : Keeps (· < W.heap.size) w w') : Ctx W w' j d D n Z' :=
  ⟨hl, below_keeps hb hk (fun i hi => hi) hb.size, hz, Nat.le_of_not_lt fun h => hj j h rfl⟩

def x0 : Two := fun _ => ([], 0)
theorem ok0 : okT x0 := fun _ => Nat.le_refl _
theorem dk0 : dk x0 none false = ⟨1048576, [], false, 0, false⟩ := rfl
theorem scan0 : (scanL (x0 false).1) = ([], 0) := scanL_nil

theorem sizeOf_str (w : World) : (Go.sizeOf 9).run Try.prog w = .ok 1 w := by
  obtain ⟨i, hi, _, hs, _⟩ := info_parts info_str
  simp [Go.sizeOf, typeInfo, hi, hs]

theorem STexts.take {w : World} {A : Option Addr} {ts : List (List UInt8)} (h : STexts w A ts) (n : Nat) : STexts w A (ts.take n) := fun h0 => by
  rw [List.length_take] at h0
  obtain ⟨g, off, e, hg, hc⟩ := h (by omega)
  refine ⟨g, off, e, hg, fun j hj => ?_⟩
  rw [List.length_take] at hj
  rw [hc j (by omega), List.getElem_take]

/-- A fuse of so many. -/
theorem small_len {ls : List (List UInt8)} (h : smallB ls = true) : fit ls ∧ (framesL ls).length ≤ 5000 := by
  obtain ⟨h1, h2⟩ := smallB_fit h
  have hf : fit ls := fun r hr => by have := h2 r hr; omega
  refine ⟨hf, ?_⟩
  have : (framesL ls).length ≤ ls.length * 408 := by
    clear hf h h1
    induction ls with
    | nil => simp [framesL]
    | cons r l ih =>
      have := ih fun x hx => h2 x (List.mem_cons_of_mem _ hx)
      have := h2 r List.mem_cons_self
      rw [framesL_cons, List.length_append, frameL_length, List.length_cons]
      omega
  omega

/-- A law's log, where the first records are. -/
def xF (F : List UInt8) : Two := x0.set false (F, F.length)

theorem xF_ok (F : List UInt8) : okT (xF F) := okT_set ok0 _ _ (Nat.le_refl _)
theorem xF_false (F : List UInt8) : xF F false = (F, F.length) := set_get _ _ _
theorem xF_true (F : List UInt8) : xF F true = ([], 0) := set_ne _ _ _ _ (by decide)

/-- The first Add of a law. -/
theorem first_add (ls : List (List UInt8)) (h : smallB ls = true) : (dk x0 none false).added nmA ls = (dk (xF (framesL ls)) none false, 0) := by
  obtain ⟨hf, hl⟩ := small_len h
  obtain ⟨ψ, lost, s, e, h1, hE⟩ := added_dk x0 none ls ok0 rfl (by show ([] : List UInt8).length + ([] : List UInt8).length + _ ≤ _; simp; omega)
  rcases hE with ⟨rfl, rfl, hs, hn⟩ | ⟨_, _, _, hn⟩
  · rw [hn rfl] at h1
    rw [hs] at h1
    exact h1
  · exact absurd rfl hn

theorem row_cap {w : World} {base : Nat} {T : TypeId} {A : Option Addr} {n cap : Nat} {xs : List Value} (h : w.ownsRow base T 1 (.slice A n cap) n xs) : n ≤ cap := by
  rcases h.2 with ⟨e, h0⟩ | ⟨g, cap', cur, e, hb, hg, hc, _⟩
  · omega
  · injection e with e1 e2 e3
    subst e3
    exact hc

theorem txt_ones (l : List (List UInt8)) : ∀ u ∈ l.map txt, u.oneCell' = true := by
  intro u hu
  obtain ⟨r, _, rfl⟩ := List.mem_map.1 hu
  rfl

end Go.Proofs.Ytnkfdnehkihbeaa
