/- The document's Keep, by its contract. (Written by mkrefo.py.) -/
import Derived.Test.YtmeoooojmhhahaaGreatTVauRefN
set_option linter.unusedVariables false
set_option linter.unusedSimpArgs false
set_option maxRecDepth 100000
set_option maxHeartbeats 16000000
namespace Go.Proofs.YtmeoooojmhhahaaGreat
open Go.RowKit
theorem qlW {W : World} {a : Addr} {u : Value} (h : W.cell? a = some u) : a.block < W.heap.size := by
 apply Classical.byContradiction
 intro hn
 have : W.heap[a.block]? = none := Array.getElem?_eq_none (by omega)
 simp [World.cell?,this] at h
theorem qfI {W : World} (o : Obj) {A : Option Addr} {vs : List Value} (h : ∀ b,A = some b -> ∀ j u,vs[j]? = some u -> W.cell? (b.add j) = some u) : ∀ b,A = some b -> ∀ j u,vs[j]? = some u -> (W.alloc o).cell? (b.add j) = some u := fun b e j u hu => by
 have h1 := h b e j u hu
 exact (World.cell?_of_block (w := W) (Below.heap_alloc _ _ _ (qlW h1))).trans h1
theorem qeh {W : World} {base b : Nat} {t : ByteArray} (h : W.heap[b]? = some (.cells #[.string t] 9)) (hb : base <= b) : W.ownsRow base 9 1 (.slice (some ⟨b,0,none⟩) 1 1) 1 (strs [t]) :=
 ⟨rfl, .inr ⟨b,1,#[.string t],rfl,hb,h,nlq,by unfold maxLen; omega,rfl,rfl⟩⟩
theorem qlx {h : Hd} {l : List Ent} (hh : rightH h = true) (hr : ∀ x ∈ l,rightE x = true) : ([hardStr h] ++ l.map qB).map btl = allRecs h l := by
 rw [List.map_append,qgt hr]
 show btl (hardStr h) :: _ = _
 rw [qfD hh]
 rfl
theorem qhL {D : Dsk} {h : Hd} {l : List Ent} (hh : rightH h = true) (hr : ∀ x ∈ l,rightE x = true) : D.resetS nWal ([hardStr h] ++ l.map qB) = D.reset nWal (allRecs h l) := by
 have e1 := qlx hh hr
 have hf : fitS ([hardStr h] ++ l.map qB) = true := by
  refine List.all_eq_true.2 fun s hs => ?_
  have hb : (btl s).length <= 60000 := by
   have hm : btl s ∈ allRecs h l := by rw [<- e1]; exact List.mem_map_of_mem hs
   exact qeu hr _ hm
  rw [qC] at hb
  exact decide_eq_true hb
 unfold Dsk.resetS Dsk.reset qak
 rw [if_pos hf,e1]
end Go.Proofs.YtmeoooojmhhahaaGreat
