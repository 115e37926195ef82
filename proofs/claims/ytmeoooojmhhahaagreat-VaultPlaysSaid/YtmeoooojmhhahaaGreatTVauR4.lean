/- The document's From and SnapFrom, by their contracts: with the room of the bytes. (Written by mkfrom.py.) -/
import Derived.Test.YtmeoooojmhhahaaGreatTVauR3
set_option linter.unusedVariables false
set_option linter.unusedSimpArgs false
set_option maxRecDepth 100000
set_option maxHeartbeats 8000000
namespace Go.Proofs.YtmeoooojmhhahaaGreat
open Go.RowKit
theorem qex (W : World) (s : ByteArray) : ∃ c W',(convert 9 33 (.string s)).run Tryz.prog W = .ok (.slice (some ⟨W.heap.size,0,none⟩) s.size c) W' /\ Lies W' (some ⟨W.heap.size,0,none⟩) s.size c s.data.toList /\ Below W.heap.size W W' /\ W.heap.size < W'.heap.size /\ (s.size <= maxLen -> c <= maxLen) := by
 obtain ⟨c,W',h1,h2,h3,h4⟩ := qbD W s
 refine ⟨c,W',h1,h2,h3,h4,fun h => ?_⟩
 have e := run_bytes_of_string (P := Tryz.prog) W _ _ _ s Tryz.underlying9 Tryz.underlying33 Tryz.underlying5
 rw [h1] at e
 injection e with e _
 injection e with _ _ e
 rw [e]
 exact grownCap_le_maxLen _ _ _ _ h
theorem qkw (A : Option Addr) (cap : Nat) (s : St) (w : World) (hL : left s <= 140737488355328) (h : qp w A cap s) :
 Calls Tryz.prog 100 #[inv A cap s] w fun e w' => ∃ D n c A' cap',e = .returned (.tuple #[entV (fromN rightB s 12000).i (fromN rightB s 12000).t D n c,inv A' cap' (fromN rightB s 12000).s]) /\ Lies w' D n c (fromN rightB s 12000).d /\ (0 < n -> ∀ g off,D = some ⟨g,off,none⟩ -> w.heap.size <= g) /\ (∀ w0,qp w0 A cap s -> qp w0 A' cap' (fromN rightB s 12000).s) /\ Below w.heap.size w w' /\ c <= maxLen := by
 have h2 : qaJ 69 w (((w.alloc (.cells #[.slice A (left s) cap, .bool s.isNone] 171)).alloc (.cells #[.int .i64 0, .int .i64 0, .slice none 0 0] 69)).alloc (.cells #[.slice none 0 0, .bool false] 171)) w.heap.size #[.slice A (left s) cap, .bool s.isNone] #[.int .i64 0, .int .i64 0, .slice none 0 0] #[.slice none 0 0, .bool false] :=
  ⟨(Below.heap_alloc _ _ _ (by simp; omega)).trans ((Below.heap_alloc _ _ _ (by simp)).trans (heap_alloc_new _ _)),(Below.heap_alloc _ _ _ (by simp)).trans (heap_alloc2_new _ _ _),by
    have := heap_alloc_new ((w.alloc (.cells #[.slice A (left s) cap, .bool s.isNone] 171)).alloc (.cells #[.int .i64 0, .int .i64 0, .slice none 0 0] 69)) (.cells #[.slice none 0 0, .bool false] 171)
    rwa [World.size_alloc,World.size_alloc] at this,((blq.alloc nlq _).alloc (by simp) _).alloc (by simp; omega) _,nlq⟩
 have hT := fun W (hW : Below w.heap.size w W) => qe8 A cap s W 12000 (by omega) hL (h.below hW nlq)
 unfold fromN
 generalize qI s 12000 = T at *
 obtain ⟨ti,tt,td,ts⟩ := T
 dsimp only at *
 obtain ⟨R,hR⟩ : ∃ R : FromL,R = if ts = none then ⟨0,0,[],none⟩ else if rightB ti tt td.length = true then ⟨ti,tt,td,ts⟩ else ⟨0,0,[],none⟩ := ⟨_,rfl⟩
 rw [<- hR]
 simp only [inv] at *
 clear hL
 have HH := Lib.hid h
 have hleft : ∀ W,Below w.heap.size w W -> qp W A cap s := fun W hW => h.below hW nlq
 clear h
 generalize left s = nS at *
 generalize s.isNone = bS at *
 go_enter Tryz.func100,Tryz.ntmps100
 go_wp2_with fail
 refine (hT _ h2.below).mono ?_
 rintro e w1 ⟨A1,c1,rfl,hr1,hb1⟩
 have h3 := h2.step hb1
 have z9 := hlt h3.r2
 obtain ⟨⟨a0,a1⟩,⟨f0,f1⟩⟩ := row2 h3.r0
 clear h2 hb1 hT
 have h4 := h3.store (.slice A1 (left ts) c1) (.bool ts.isNone)
 obtain ⟨c4,W4,hcv,hl4,hb4,hs4,hc4⟩ := qex ((w1.setCell ⟨w.heap.size,0,none⟩ (.slice A1 (left ts) c1)).setCell ⟨w.heap.size,1,none⟩ (.bool ts.isNone)) ⟨td.toArray⟩
 have h5 := h4.step hb4
 have hz4 : (⟨td.toArray⟩ : ByteArray).size = td.length := rfl
 have hd4 : (⟨td.toArray⟩ : ByteArray).data.toList = td := rfl
 rw [hz4] at hcv hl4
 have hsz : ((w1.setCell ⟨w.heap.size,0,none⟩ (.slice A1 (left ts) c1)).setCell ⟨w.heap.size,1,none⟩ (.bool ts.isNone)).heap.size = w1.heap.size := by simp
 rw [hsz] at hl4
 clear hsz
 rw [hd4] at hl4
 obtain ⟨⟨b0,b1⟩,⟨g0,g1⟩⟩ := row2 h5.r0
 obtain ⟨⟨b2,b3,b4⟩,⟨g2,g3,g4⟩⟩ := row3 h5.r1
 obtain ⟨⟨b5,b6⟩,⟨g5,g6⟩⟩ := row2 h5.r2
 have z0 := hlt h5.r0
 have z1 := hlt h5.r1
 have z2 := hlt h5.r2
 cases ts with
 | none =>
   rw [if_pos rfl] at hR
   have HR := Lib.hid hR
   clear hR
   simp only [left,Option.isNone] at *
   have hA4 : Below W4.heap.size W4 (W4.alloc (.cells #[.int .i64 ti, .int .i64 tt, .slice (some ⟨w1.heap.size,0,none⟩) td.length c4] 69)) := (Below.refl W4.heap.size W4).alloc nlq _
   have h7 := (h5.fin (.int .i64 0) (.int .i64 0) (.slice none 0 0) (.slice none 0 0) (.bool true)).step (blq.alloc nlq (.cells #[.int .i64 ti, .int .i64 tt, .slice (some ⟨w1.heap.size,0,none⟩) td.length c4] 69))
   go_wp2
   refine bodyPost_ret (qaQ rfl _ _ (w.heap.size + 1) (w.heap.size + 1 + 1) _ _ _ _ _ _ rfl rfl h7.r1 h7.r2 Tryz.underlying69 Tryz.underlying171 rfl rfl (by kernel_rfl) (by kernel_rfl)) rfl ?_
   have e : R = _ := HR
   rw [e]
   exact ⟨none,0,0,none,0,rfl,Lies.nil _,fun h0 => absurd h0 (by omega),fun w0 _ => qp.bad w0,h7.below,Nat.zero_le _⟩
 | some sl =>
   rw [if_neg (by simp)] at hR
   have hRt := fun W => qcL ti tt (some ⟨w1.heap.size,0,none⟩) td.length c4 W
   have h8 := h5.step ((Below.refl W4.heap.size W4).alloc nlq (.cells #[.int .i64 ti, .int .i64 tt, .slice (some ⟨w1.heap.size,0,none⟩) td.length c4] 69))
   have hr8 := heap_alloc_new W4 (.cells #[.int .i64 ti, .int .i64 tt, .slice (some ⟨w1.heap.size,0,none⟩) td.length c4] 69)
   have hl8 := hl4.below ((Below.refl W4.heap.size W4).alloc nlq (.cells #[.int .i64 ti, .int .i64 tt, .slice (some ⟨w1.heap.size,0,none⟩) td.length c4] 69)) nlq
   have z8 : W4.heap.size < (W4.alloc (.cells #[.int .i64 ti, .int .i64 tt, .slice (some ⟨w1.heap.size,0,none⟩) td.length c4] 69)).heap.size := by simp
   have hbl : rightB ti tt td.length = true -> c4 <= maxLen := fun h => hc4 (by have := (qc2 h).2.2; show td.length <= maxLen; unfold maxLen; omega)
   generalize rightB ti tt td.length = b at *
   cases b with
   | false =>
     rw [if_neg (by simp)] at hR
     have HR := Lib.hid hR
     clear hR
     simp only [Option.isNone] at *
     go_wp2_with fail
     refine (hRt _).mono ?_
     rintro e w6 ⟨rfl,hb6⟩
     have h9 := h8.step hb6
     obtain ⟨⟨d0,d1⟩,⟨e0,e1⟩⟩ := row2 h9.r0
     obtain ⟨⟨d2,d3,d4⟩,⟨e2,e3,e4⟩⟩ := row3 h9.r1
     obtain ⟨⟨d5,d6⟩,⟨e5,e6⟩⟩ := row2 h9.r2
     have h7 := h9.fin (.int .i64 0) (.int .i64 0) (.slice none 0 0) (.slice none 0 0) (.bool true)
     clear hRt hcv
     go_wp2
     refine bodyPost_ret (qaQ rfl _ _ (w.heap.size + 1) (w.heap.size + 1 + 1) _ _ _ _ _ _ rfl rfl h7.r1 h7.r2 Tryz.underlying69 Tryz.underlying171 rfl rfl (by kernel_rfl) (by kernel_rfl)) rfl ?_
     have e : R = _ := HR
     rw [e]
     exact ⟨none,0,0,none,0,rfl,Lies.nil _,fun h0 => absurd h0 (by omega),fun w0 _ => qp.bad w0,h7.below,Nat.zero_le _⟩
   | true =>
     rw [if_pos rfl] at hR
     have HR := Lib.hid hR
     clear hR
     simp only [Option.isNone] at *
     go_wp2_with fail
     refine (hRt _).mono ?_
     rintro e w6 ⟨rfl,hb6⟩
     have h9 := h8.step hb6
     obtain ⟨⟨d0,d1⟩,⟨e0,e1⟩⟩ := row2 h9.r0
     obtain ⟨⟨d2,d3,d4⟩,⟨e2,e3,e4⟩⟩ := row3 h9.r1
     obtain ⟨⟨d5,d6⟩,⟨e5,e6⟩⟩ := row2 h9.r2
     obtain ⟨⟨d7,d8,d9⟩,_⟩ := row3 ((hb6.block _ z8).trans hr8)
     have hl9 := hl8.below hb6 nlq
     have h7 := h9.fin (.int .i64 ti) (.int .i64 tt) (.slice (some ⟨w1.heap.size,0,none⟩) td.length c4) (.slice A1 (left (some sl)) c1) (.bool false)
     clear hRt hcv
     go_wp2
     go_region
     all_goals
      go_wp2
      refine bodyPost_ret (qaQ rfl _ _ (w.heap.size + 1) (w.heap.size + 1 + 1) _ _ _ _ _ _ rfl rfl h7.r1 h7.r2 Tryz.underlying69 Tryz.underlying171 rfl rfl (by kernel_rfl) (by kernel_rfl)) rfl ?_
      have e : R = _ := HR
      rw [e]
      exact ⟨some ⟨w1.heap.size,0,none⟩,td.length,c4,A1,c1,rfl,(hl9.fin5 z9 _ _ _ _ _).drew,fun _ g off eg => by injection eg with eg; injection eg with eg; subst eg; omega,fun w0 h0 => hr1 w0 h0,h7.below.drew,hbl (by simp)⟩
theorem qgN (A : Option Addr) (cap : Nat) (s : St) (w : World) (hL : left s <= 140737488355328) (h : qp w A cap s) :
 Calls Tryz.prog 96 #[inv A cap s] w fun e w' => ∃ D n c A' cap',e = .returned (.tuple #[entV (fromN snapB s 50000).i (fromN snapB s 50000).t D n c,inv A' cap' (fromN snapB s 50000).s]) /\ Lies w' D n c (fromN snapB s 50000).d /\ (0 < n -> ∀ g off,D = some ⟨g,off,none⟩ -> w.heap.size <= g) /\ (∀ w0,qp w0 A cap s -> qp w0 A' cap' (fromN snapB s 50000).s) /\ Below w.heap.size w w' /\ c <= maxLen := by
 have h2 : qaJ 35 w (((w.alloc (.cells #[.slice A (left s) cap, .bool s.isNone] 171)).alloc (.cells #[.int .i64 0, .int .i64 0, .slice none 0 0] 35)).alloc (.cells #[.slice none 0 0, .bool false] 171)) w.heap.size #[.slice A (left s) cap, .bool s.isNone] #[.int .i64 0, .int .i64 0, .slice none 0 0] #[.slice none 0 0, .bool false] :=
  ⟨(Below.heap_alloc _ _ _ (by simp; omega)).trans ((Below.heap_alloc _ _ _ (by simp)).trans (heap_alloc_new _ _)),(Below.heap_alloc _ _ _ (by simp)).trans (heap_alloc2_new _ _ _),by
    have := heap_alloc_new ((w.alloc (.cells #[.slice A (left s) cap, .bool s.isNone] 171)).alloc (.cells #[.int .i64 0, .int .i64 0, .slice none 0 0] 35)) (.cells #[.slice none 0 0, .bool false] 171)
    rwa [World.size_alloc,World.size_alloc] at this,((blq.alloc nlq _).alloc (by simp) _).alloc (by simp; omega) _,nlq⟩
 have hT := fun W (hW : Below w.heap.size w W) => qe8 A cap s W 50000 (by omega) hL (h.below hW nlq)
 unfold fromN
 generalize qI s 50000 = T at *
 obtain ⟨ti,tt,td,ts⟩ := T
 dsimp only at *
 obtain ⟨R,hR⟩ : ∃ R : FromL,R = if ts = none then ⟨0,0,[],none⟩ else if snapB ti tt td.length = true then ⟨ti,tt,td,ts⟩ else ⟨0,0,[],none⟩ := ⟨_,rfl⟩
 rw [<- hR]
 simp only [inv] at *
 clear hL
 have HH := Lib.hid h
 have hleft : ∀ W,Below w.heap.size w W -> qp W A cap s := fun W hW => h.below hW nlq
 clear h
 generalize left s = nS at *
 generalize s.isNone = bS at *
 go_enter Tryz.func96,Tryz.ntmps96
 go_wp2_with fail
 refine (hT _ h2.below).mono ?_
 rintro e w1 ⟨A1,c1,rfl,hr1,hb1⟩
 have h3 := h2.step hb1
 have z9 := hlt h3.r2
 obtain ⟨⟨a0,a1⟩,⟨f0,f1⟩⟩ := row2 h3.r0
 clear h2 hb1 hT
 have h4 := h3.store (.slice A1 (left ts) c1) (.bool ts.isNone)
 obtain ⟨c4,W4,hcv,hl4,hb4,hs4,hc4⟩ := qex ((w1.setCell ⟨w.heap.size,0,none⟩ (.slice A1 (left ts) c1)).setCell ⟨w.heap.size,1,none⟩ (.bool ts.isNone)) ⟨td.toArray⟩
 have h5 := h4.step hb4
 have hz4 : (⟨td.toArray⟩ : ByteArray).size = td.length := rfl
 have hd4 : (⟨td.toArray⟩ : ByteArray).data.toList = td := rfl
 rw [hz4] at hcv hl4
 have hsz : ((w1.setCell ⟨w.heap.size,0,none⟩ (.slice A1 (left ts) c1)).setCell ⟨w.heap.size,1,none⟩ (.bool ts.isNone)).heap.size = w1.heap.size := by simp
 rw [hsz] at hl4
 clear hsz
 rw [hd4] at hl4
 obtain ⟨⟨b0,b1⟩,⟨g0,g1⟩⟩ := row2 h5.r0
 obtain ⟨⟨b2,b3,b4⟩,⟨g2,g3,g4⟩⟩ := row3 h5.r1
 obtain ⟨⟨b5,b6⟩,⟨g5,g6⟩⟩ := row2 h5.r2
 have z0 := hlt h5.r0
 have z1 := hlt h5.r1
 have z2 := hlt h5.r2
 cases ts with
 | none =>
   rw [if_pos rfl] at hR
   have HR := Lib.hid hR
   clear hR
   simp only [left,Option.isNone] at *
   have hA4 : Below W4.heap.size W4 (W4.alloc (.cells #[.int .i64 ti, .int .i64 tt, .slice (some ⟨w1.heap.size,0,none⟩) td.length c4] 35)) := (Below.refl W4.heap.size W4).alloc nlq _
   have h7 := (h5.fin (.int .i64 0) (.int .i64 0) (.slice none 0 0) (.slice none 0 0) (.bool true)).step (blq.alloc nlq (.cells #[.int .i64 ti, .int .i64 tt, .slice (some ⟨w1.heap.size,0,none⟩) td.length c4] 35))
   go_wp2
   refine bodyPost_ret (qaQ rfl _ _ (w.heap.size + 1) (w.heap.size + 1 + 1) _ _ _ _ _ _ rfl rfl h7.r1 h7.r2 Tryz.underlying35 Tryz.underlying171 rfl rfl (by kernel_rfl) (by kernel_rfl)) rfl ?_
   have e : R = _ := HR
   rw [e]
   exact ⟨none,0,0,none,0,rfl,Lies.nil _,fun h0 => absurd h0 (by omega),fun w0 _ => qp.bad w0,h7.below,Nat.zero_le _⟩
 | some sl =>
   rw [if_neg (by simp)] at hR
   have hRt := fun W => qeJ ti tt (some ⟨w1.heap.size,0,none⟩) td.length c4 W
   have h8 := h5.step ((Below.refl W4.heap.size W4).alloc nlq (.cells #[.int .i64 ti, .int .i64 tt, .slice (some ⟨w1.heap.size,0,none⟩) td.length c4] 35))
   have hr8 := heap_alloc_new W4 (.cells #[.int .i64 ti, .int .i64 tt, .slice (some ⟨w1.heap.size,0,none⟩) td.length c4] 35)
   have hl8 := hl4.below ((Below.refl W4.heap.size W4).alloc nlq (.cells #[.int .i64 ti, .int .i64 tt, .slice (some ⟨w1.heap.size,0,none⟩) td.length c4] 35)) nlq
   have z8 : W4.heap.size < (W4.alloc (.cells #[.int .i64 ti, .int .i64 tt, .slice (some ⟨w1.heap.size,0,none⟩) td.length c4] 35)).heap.size := by simp
   have hbl : snapB ti tt td.length = true -> c4 <= maxLen := fun h => hc4 (by have := (qcd h).2.2; show td.length <= maxLen; unfold maxLen; omega)
   generalize snapB ti tt td.length = b at *
   cases b with
   | false =>
     rw [if_neg (by simp)] at hR
     have HR := Lib.hid hR
     clear hR
     simp only [Option.isNone] at *
     go_wp2_with fail
     refine (hRt _).mono ?_
     rintro e w6 ⟨rfl,hb6⟩
     have h9 := h8.step hb6
     obtain ⟨⟨d0,d1⟩,⟨e0,e1⟩⟩ := row2 h9.r0
     obtain ⟨⟨d2,d3,d4⟩,⟨e2,e3,e4⟩⟩ := row3 h9.r1
     obtain ⟨⟨d5,d6⟩,⟨e5,e6⟩⟩ := row2 h9.r2
     have h7 := h9.fin (.int .i64 0) (.int .i64 0) (.slice none 0 0) (.slice none 0 0) (.bool true)
     clear hRt hcv
     go_wp2
     refine bodyPost_ret (qaQ rfl _ _ (w.heap.size + 1) (w.heap.size + 1 + 1) _ _ _ _ _ _ rfl rfl h7.r1 h7.r2 Tryz.underlying35 Tryz.underlying171 rfl rfl (by kernel_rfl) (by kernel_rfl)) rfl ?_
     have e : R = _ := HR
     rw [e]
     exact ⟨none,0,0,none,0,rfl,Lies.nil _,fun h0 => absurd h0 (by omega),fun w0 _ => qp.bad w0,h7.below,Nat.zero_le _⟩
   | true =>
     rw [if_pos rfl] at hR
     have HR := Lib.hid hR
     clear hR
     simp only [Option.isNone] at *
     go_wp2_with fail
     refine (hRt _).mono ?_
     rintro e w6 ⟨rfl,hb6⟩
     have h9 := h8.step hb6
     obtain ⟨⟨d0,d1⟩,⟨e0,e1⟩⟩ := row2 h9.r0
     obtain ⟨⟨d2,d3,d4⟩,⟨e2,e3,e4⟩⟩ := row3 h9.r1
     obtain ⟨⟨d5,d6⟩,⟨e5,e6⟩⟩ := row2 h9.r2
     obtain ⟨⟨d7,d8,d9⟩,_⟩ := row3 ((hb6.block _ z8).trans hr8)
     have hl9 := hl8.below hb6 nlq
     have h7 := h9.fin (.int .i64 ti) (.int .i64 tt) (.slice (some ⟨w1.heap.size,0,none⟩) td.length c4) (.slice A1 (left (some sl)) c1) (.bool false)
     clear hRt hcv
     go_wp2
     go_region
     all_goals
      go_wp2
      refine bodyPost_ret (qaQ rfl _ _ (w.heap.size + 1) (w.heap.size + 1 + 1) _ _ _ _ _ _ rfl rfl h7.r1 h7.r2 Tryz.underlying35 Tryz.underlying171 rfl rfl (by kernel_rfl) (by kernel_rfl)) rfl ?_
      have e : R = _ := HR
      rw [e]
      exact ⟨some ⟨w1.heap.size,0,none⟩,td.length,c4,A1,c1,rfl,(hl9.fin5 z9 _ _ _ _ _).drew,fun _ g off eg => by injection eg with eg; injection eg with eg; subst eg; omega,fun w0 h0 => hr1 w0 h0,h7.below.drew,hbl (by simp)⟩
end Go.Proofs.YtmeoooojmhhahaaGreat
namespace Go.Proofs.YtmeoooojmhhahaaGreat
open Go.RowKit
structure qd3 (w wr : World) (ts : List ByteArray) (k : Nat) (A : Option Addr) (c : Nat) (h : Hd) (l : List Ent) : Prop where
 told : qA (hd0,[]) ((ts.take k).map btl) = some (h,l)
 few : l.length <= k
 ents : Ents wr (w.heap.size + 2 <= ·) A l.length c l
 hard : wr.heap[w.heap.size + 1]? = some (.cells #[.int .i64 h.t, .int .i64 h.v] 32)
 zero : wr.heap[w.heap.size]? = some (.cells #[.int .i64 0, .int .i64 0] 32)
 below : Below w.heap.size w wr
theorem qlu {l : List Ent} {e : Ent} {m : List Ent} (h : putE l e = some m) : m.length <= l.length + 1 := by
 have key : m = [e] \/ m = l.filter (fun g => decide (g.i < e.i)) ++ [e] := by
  cases l with
  | nil => unfold putE at h; simp at h; exact .inl h.symm
  | cons f t =>
    unfold putE at h
    by_cases hc : e.i < f.i
    · rw [if_pos (decide_eq_true hc)] at h
      injection h with h; exact .inl h.symm
    · rw [if_neg (by simpa using hc)] at h
      generalize (List.filter (fun g => decide (g.i < e.i)) (f :: t)).getLast? = o at h
      cases o with
      | none => injection h with h; exact .inl h.symm
      | some g =>
        dsimp only at h
        by_cases hc : g.i = e.i - 1 /\ g.t <= e.t
        · rw [if_pos hc] at h; injection h with h; exact .inr h.symm
        · rw [if_neg hc] at h; cases h
 rcases key with rfl | rfl
 · simp
 · rw [List.length_append,List.length_singleton]
   have := List.length_filter_le (fun g : Ent => decide (g.i < e.i)) l
   omega
theorem qgs (ts : List ByteArray) (k : Nat) (hk : k < ts.length) {q : Hd × List Ent} (h : qA (hd0,[]) ((ts.take k).map btl) = some q) : qA (hd0,[]) ((ts.take (k + 1)).map btl) = tellOne q (btl ts[k]) := by
 rw [List.take_succ_eq_append_getElem hk,List.map_append,qbJ,h]
 show qA q [btl ts[k]] = _
 rw [qa3]
 cases tellOne q (btl ts[k]) <;> rfl
theorem qjm (ts : List ByteArray) (k : Nat) (hk : k < ts.length) {q : Hd × List Ent} (h : qA (hd0,[]) ((ts.take k).map btl) = some q) (hn : tellOne q (btl ts[k]) = none) : tells (ts.map btl) = none := by
 have e : ts = ts.take (k + 1) ++ ts.drop (k + 1) := (List.take_append_drop _ _).symm
 unfold tells
 rw [e,List.map_append,qbJ,qgs ts k hk h,hn]
 rfl
theorem qjn (q : Hd × List Ent) (r : List UInt8) : tellOne q r =
 if (numberN (some r) 1).1 = 1 then
  if (hardFromN (numberN (some r) 1).2).s = some [] then some (⟨(hardFromN (numberN (some r) 1).2).t,(hardFromN (numberN (some r) 1).2).v⟩,q.2) else none
 else if (numberN (some r) 1).1 = 2 then
  if (fromN rightB (numberN (some r) 1).2 12000).s = some [] then
   (putE q.2 ⟨(fromN rightB (numberN (some r) 1).2 12000).i,(fromN rightB (numberN (some r) 1).2 12000).t,(fromN rightB (numberN (some r) 1).2 12000).d⟩).map fun l => (q.1,l)
  else none
 else none := rfl
theorem qd3.turn {w wr W : World} {ts : List ByteArray} {k : Nat} {A A' : Option Addr} {c c' : Nat} {h h' : Hd} {l l' : List Ent} (hT : qd3 w wr ts k A c h l) (hb : Below w.heap.size w W) (h0 : W.heap[w.heap.size]? = wr.heap[w.heap.size]?)
 (hh : W.heap[w.heap.size + 1]? = some (.cells #[.int .i64 h'.t, .int .i64 h'.v] 32)) (hE : Ents W (w.heap.size + 2 <= ·) A' l'.length c' l') (hf : l'.length <= k + 1) (ht : qA (hd0,[]) ((ts.take (k + 1)).map btl) = some (h',l')) : qd3 w W ts (k + 1) A' c' h' l' :=
 ⟨ht,hf,hE,hh,h0.trans hT.zero,hb⟩
theorem qlv (X : World) (p q : Nat) (hne : p ≠ q) (a b c d : Value) : 
 (∀ k,k ≠ p -> k ≠ q -> ((((X.setCell ⟨p,0,none⟩ a).setCell ⟨p,1,none⟩ b).setCell ⟨q,0,none⟩ c).setCell ⟨q,1,none⟩ d).heap[k]? = X.heap[k]?) ∧
 (∀ (a0 b0 : Value) (T : TypeId),X.heap[p]? = some (.cells #[a0,b0] T) -> ((((X.setCell ⟨p,0,none⟩ a).setCell ⟨p,1,none⟩ b).setCell ⟨q,0,none⟩ c).setCell ⟨q,1,none⟩ d).heap[p]? = some (.cells #[a,b] T)) ∧
 (∀ (c0 d0 : Value) (T : TypeId),X.heap[q]? = some (.cells #[c0,d0] T) -> ((((X.setCell ⟨p,0,none⟩ a).setCell ⟨p,1,none⟩ b).setCell ⟨q,0,none⟩ c).setCell ⟨q,1,none⟩ d).heap[q]? = some (.cells #[c,d] T)) := by
 refine ⟨fun k h1 h2 => ?_,fun a0 b0 T h => ?_,fun c0 d0 T h => ?_⟩
 · refine (Below.heap_setCell _ _ _ _ (by exact h2)).trans ((Below.heap_setCell _ _ _ _ (by exact h2)).trans ((Below.heap_setCell _ _ _ _ (by exact h1)).trans (Below.heap_setCell _ _ _ _ (by exact h1))))
 · refine (Below.heap_setCell _ _ _ _ (by exact hne)).trans ((Below.heap_setCell _ _ _ _ (by exact hne)).trans ?_)
   exact qR _ _ _ _ _ _ _ h
 · exact qR _ _ _ _ _ _ _ ((Below.heap_setCell _ _ _ _ (by exact Ne.symm hne)).trans ((Below.heap_setCell _ _ _ _ (by exact Ne.symm hne)).trans h))
theorem qlw (X : World) (p q : Nat) (hne : p ≠ q) (a b e c d : Value) : 
 (∀ k,k ≠ p -> k ≠ q -> (((((X.setCell ⟨p,0,none⟩ a).setCell ⟨p,1,none⟩ b).setCell ⟨p,2,none⟩ e).setCell ⟨q,0,none⟩ c).setCell ⟨q,1,none⟩ d).heap[k]? = X.heap[k]?) ∧
 (∀ (a0 b0 e0 : Value) (T : TypeId),X.heap[p]? = some (.cells #[a0,b0,e0] T) -> (((((X.setCell ⟨p,0,none⟩ a).setCell ⟨p,1,none⟩ b).setCell ⟨p,2,none⟩ e).setCell ⟨q,0,none⟩ c).setCell ⟨q,1,none⟩ d).heap[p]? = some (.cells #[a,b,e] T)) ∧
 (∀ (c0 d0 : Value) (T : TypeId),X.heap[q]? = some (.cells #[c0,d0] T) -> (((((X.setCell ⟨p,0,none⟩ a).setCell ⟨p,1,none⟩ b).setCell ⟨p,2,none⟩ e).setCell ⟨q,0,none⟩ c).setCell ⟨q,1,none⟩ d).heap[q]? = some (.cells #[c,d] T)) := by
 refine ⟨fun k h1 h2 => ?_,fun a0 b0 e0 T h => ?_,fun c0 d0 T h => ?_⟩
 · exact (Below.heap_setCell _ _ _ _ (by exact h2)).trans ((Below.heap_setCell _ _ _ _ (by exact h2)).trans ((Below.heap_setCell _ _ _ _ (by exact h1)).trans ((Below.heap_setCell _ _ _ _ (by exact h1)).trans (Below.heap_setCell _ _ _ _ (by exact h1)))))
 · refine (Below.heap_setCell _ _ _ _ (by exact hne)).trans ((Below.heap_setCell _ _ _ _ (by exact hne)).trans ?_)
   exact qL _ _ _ _ _ _ _ _ _ h
 · exact qR _ _ _ _ _ _ _ ((Below.heap_setCell _ _ _ _ (by exact Ne.symm hne)).trans ((Below.heap_setCell _ _ _ _ (by exact Ne.symm hne)).trans ((Below.heap_setCell _ _ _ _ (by exact Ne.symm hne)).trans h)))
theorem qif {B : Nat} {w X : World} (h : Below B w X) {p q : Nat} (hp : B <= p) (hq : B <= q) (a b e c d : Value) : Below B w (((((X.setCell ⟨p,0,none⟩ a).setCell ⟨p,1,none⟩ b).setCell ⟨p,2,none⟩ e).setCell ⟨q,0,none⟩ c).setCell ⟨q,1,none⟩ d) :=
 (((((h.setCell (by exact hp) _).setCell (by exact hp) _).setCell (by exact hp) _).setCell (by exact hq) _).setCell (by exact hq) _)
theorem qjo {B : Nat} {w X : World} (h : Below B w X) {p q : Nat} (hp : B <= p) (hq : B <= q) (a b c d : Value) : Below B w ((((X.setCell ⟨p,0,none⟩ a).setCell ⟨p,1,none⟩ b).setCell ⟨q,0,none⟩ c).setCell ⟨q,1,none⟩ d) :=
 ((((h.setCell (by exact hp) _).setCell (by exact hp) _).setCell (by exact hq) _).setCell (by exact hq) _)
def qdB (w w' : World) (ts : List ByteArray) (en : Ending) : Prop :=
 Below w.heap.size w w' /\ match tells (ts.map btl) with
  | some (h,l) => ∃ A c,en = .returned (.tuple #[.agg #[.int .i64 h.t, .int .i64 h.v], .slice A l.length c, .bool true]) /\ Ents w' (w.heap.size <= ·) A l.length c l /\ l.length <= ts.length
  | none => en = .returned (.tuple #[.agg #[.int .i64 0, .int .i64 0], .slice none 0 0, .bool false])
theorem qig (A : Option Addr) (len cap : Nat) (ts : List ByteArray) (w : World) (h : Strs w A len cap ts) (hm : len <= 100000) (hs : ∀ s ∈ ts,s.size <= 60000) :
 Calls Tryz.prog 45 #[.slice A len cap] w fun en w' => qdB w w' ts en := by
 have hll := h.1
 have hb0 : Below w.heap.size w ((w.alloc (.cells #[.int .i64 0, .int .i64 0] 32)).alloc (.cells #[.int .i64 0, .int .i64 (-1)] 32)) := (blq.alloc nlq _).alloc (by simp) _
 have h0 : qd3 w ((w.alloc (.cells #[.int .i64 0, .int .i64 0] 32)).alloc (.cells #[.int .i64 0, .int .i64 (-1)] 32)) ts 0 none 0 hd0 [] :=
  ⟨rfl,nlq,⟨rfl,nlq,fun _ => rfl,fun h => absurd h (by simp)⟩,heap_alloc2_new _ _ _,heap_alloc2_old _ _ _,hb0⟩
 clear hb0
 go_enter Tryz.func45,Tryz.ntmps45
 go_wp2
 go_loopg [6,7,8,9,10,11,15] len (fun g v x7 x8 x9 x10 x11 kk wr => ∃ (k : Nat) (Ao : Option Addr) (co : Nat) (hq : Hd) (lq : List Ent),k + g = len /\ kk = .int .i64 (k : Int) /\ v = .slice Ao lq.length co /\ qd3 w wr ts k Ao co hq lq)
 case atStart => exact ⟨0,none,0,hd0,[],by omega,rfl,rfl,h0⟩
 case round =>
  clear h0
  obtain ⟨k,Ao,co,hq,lq,hk,rfl,rfl,hT⟩ := hrel
  have HK := Lib.hid hk
  obtain ⟨hw0,hw1⟩ : w.heap.size < wr.heap.size /\ w.heap.size + 1 < wr.heap.size := ⟨hlt hT.zero,hlt hT.hard⟩
  by_cases hkn : k < len
  · have hkn' : (k : Int) < (len : Int) := by omega
    have hkl : k < ts.length := by omega
    obtain ⟨g,off,rfl,hg,hc⟩ := (h.below hT.below nlq).2.2 (by omega)
    have x0 := hc k hkl
    have hss := hs _ (List.getElem_mem hkl)
    have hnx := qgs ts k hkl hT.told
    have hnv := qjm ts k hkl hT.told
    obtain ⟨s,hse⟩ : ∃ s,s = ts[k]'hkl := ⟨_,rfl⟩
    rw [<- hse] at x0 hss hnx hnv
    clear hse hc
    obtain ⟨c,W',hcv,hl,hbW,hsW⟩ := qbD wr s
    have hRL : qp W' (some ⟨wr.heap.size,0,none⟩) c (some (btl s)) := by
     unfold qp
     show Lies W' _ (btl s).length c (btl s)
     rw [qC]
     exact hl
    have hB := qjJ (some ⟨wr.heap.size,0,none⟩) c (some (btl s)) W' hRL
    rw [show inv (some ⟨wr.heap.size,0,none⟩) c (some (btl s)) = .agg #[.slice (some ⟨wr.heap.size,0,none⟩) s.size c, .bool false] by show Value.agg #[.slice _ (btl s).length _, .bool false] = _; rw [qC]] at hB
    rw [qjn] at hnx hnv
    have hln := qar (some (btl s)) 1 (b := 60000) (by show (btl s).length <= _; rw [qC]; exact hss)
    generalize numberN (some (btl s)) 1 = ks at *
    obtain ⟨K,s1⟩ := ks
    dsimp only at *
    go_wp2_with fail
    refine hB.mono ?_
    rintro e w1 ⟨A1,c1,rfl,hr1,hb1⟩
    have hbw1 : Below wr.heap.size wr w1 := hbW.trans (hb1.mono hbW.size)
    have hR1 := (hr1 W' hRL).below hb1 nlq
    clear hB hr1 hb1 hRL hcv hl hbW hsW
    have hbX : Below w1.heap.size w1 ((w1.alloc (.cells #[.slice A1 (left s1) c1, .bool s1.isNone] 171)).alloc (.cells #[.int .i64 0, .int .i64 0, .slice none 0 0] 69)) := (blq.alloc nlq _).alloc (by simp) _
    have rI : ((w1.alloc (.cells #[.slice A1 (left s1) c1, .bool s1.isNone] 171)).alloc (.cells #[.int .i64 0, .int .i64 0, .slice none 0 0] 69)).heap[w1.heap.size]? = some (.cells #[.slice A1 (left s1) c1, .bool s1.isNone] 171) := heap_alloc2_old _ _ _
    have rE : ((w1.alloc (.cells #[.slice A1 (left s1) c1, .bool s1.isNone] 171)).alloc (.cells #[.int .i64 0, .int .i64 0, .slice none 0 0] 69)).heap[w1.heap.size + 1]? = some (.cells #[.int .i64 0, .int .i64 0, .slice none 0 0] 69) := heap_alloc2_new _ _ _
    by_cases h1 : K = 1
    · subst h1
      simp only [if_true] at hnx hnv
      have hH := fun W (hW : Below w1.heap.size w1 W) => qgE A1 c1 s1 W (hR1.below hW nlq)
      generalize hardFromN s1 = R at *
      obtain ⟨rt,rv,s2⟩ := R
      dsimp only at *
      go_wp2_with fail
      refine (hH _ (by first | exact hbX | exact hbX.drew)).mono ?_
      rintro e w3 ⟨A2,c2,rfl,hr2,hb3⟩
      have hz13 : w1.heap.size < w3.heap.size := by have := hb3.size; simp at this; omega
      have hlw : wr.heap.size <= w1.heap.size := hbw1.size
      have hbw3 : Below wr.heap.size wr w3 := hbw1.trans ((hbX.trans (hb3.mono hbX.size)).mono hlw)
      have rH3 := (hbw3.block _ hw1).trans hT.hard
      have rI3 := (hb3.block w1.heap.size (by simp; omega)).trans rI
      obtain ⟨_,⟨fH0,fH1⟩⟩ := row2 rH3
      obtain ⟨_,⟨fI0,fI1⟩⟩ := row2 rI3
      have hzH : w.heap.size + 1 < w3.heap.size := by omega
      obtain ⟨sa,sb,sc⟩ := qlv w3 (w.heap.size + 1) w1.heap.size (by omega) (.int .i64 rt) (.int .i64 rv) (.slice A2 (left s2) c2) (.bool s2.isNone)
      have hb4 := qjo (hT.below.trans (hbw3.mono hT.below.size)) (p := w.heap.size + 1) (q := w1.heap.size) (by omega) (by omega) (.int .i64 rt) (.int .i64 rv) (.slice A2 (left s2) c2) (.bool s2.isNone)
      have rH4 := sb _ _ _ rH3
      have rI4 := sc _ _ _ rI3
      have r04 := (sa w.heap.size (by omega) (by omega)).trans (hbw3.block _ hw0)
      have hE4 := hT.ents.keep (by simp [World.setCell]; omega) fun q hq hz => (sa q (by have : w.heap.size + 2 <= q := hz; omega) (by omega)).trans (hbw3.block q hq)
      have hz4 : ((((w3.setCell ⟨w.heap.size + 1,0,none⟩ (.int .i64 rt)).setCell ⟨w.heap.size + 1,1,none⟩ (.int .i64 rv)).setCell ⟨w1.heap.size,0,none⟩ (.slice A2 (left s2) c2)).setCell ⟨w1.heap.size,1,none⟩ (.bool s2.isNone)).heap.size = w3.heap.size := by simp [World.setCell]
      clear sa sb sc rH3 rI3 rI rE hbX hb3 hbw3 hH hR1
      go_upto_region 13 with fail
      clear fH0 fH1 fI0 fI1
      generalize ((((w3.setCell ⟨w.heap.size + 1,0,none⟩ (.int .i64 rt)).setCell ⟨w.heap.size + 1,1,none⟩ (.int .i64 rv)).setCell ⟨w1.heap.size,0,none⟩ (.slice A2 (left s2) c2)).setCell ⟨w1.heap.size,1,none⟩ (.bool s2.isNone)) = W4 at *
      obtain ⟨⟨y0,y1⟩,_⟩ := row2 rI4
      have hD := fun W => qdI A2 c2 s2 W
      generalize hdd : decide (s2 = some []) = dd at hD
      go_wp2_with fail
      refine (hD _).mono ?_
      rintro e w5 ⟨rfl,hb5⟩
      have hb5w := hb4.trans (hb5.mono hb4.size)
      have r05 := (hb5.block w.heap.size (by omega)).trans r04
      have rH5 := (hb5.block (w.heap.size + 1) (by omega)).trans rH4
      have hE5 := hE4.below hb5 nlq
      have hz5 : w.heap.size < w5.heap.size := by have := hb5.size; omega
      clear hD hb4 hb5 rH4 rI4 r04 hE4 y0 y1 hz4 hz13
      cases dd with
      | true =>
        rw [if_pos (of_decide_eq_true hdd)] at hnx
        have HN := Lib.hid (hT.turn (h' := ⟨rt,rv⟩) (l' := lq) (A' := Ao) (c' := co) hb5w r05 rH5 hE5 (by have := hT.few; omega) hnx)
        clear hnx hnv hT hb5w r05 rH5 hE5
        go_wp2
        go_roundg (gk - 1)
        case measure => have : k + gk = len := HK.out; omega
        case rel => exact ⟨k + 1,Ao,co,⟨rt,rv⟩,lq,by have : k + gk = len := HK.out; omega,by go_num,rfl,HN.out⟩
      | false =>
        rw [if_neg (of_decide_eq_false hdd)] at hnv
        have HV := Lib.hid (hnv rfl)
        have HB := Lib.hid hb5w
        have HZ := Lib.hid (r05.trans hT.zero)
        obtain ⟨_,⟨f0,f1⟩⟩ := row2 HZ.out
        clear hnx hnv hT hb5w r05 rH5 hE5
        go_wp2
        refine bodyPost_ret (qJ (n := w.heap.size) rfl rfl (qR _ _ _ _ _ _ _ HZ.out) Tryz.underlying32 rfl (by kernel_rfl)) rfl ?_
        unfold qdB
        rw [HV.out]
        exact ⟨(HB.out.setCell nlq _).setCell nlq _,rfl⟩
    · rw [if_neg h1] at hnx hnv
      have hk1 : ((K : Int) == 1) = false := by simp; omega
      have hk1' : ((K : Int) = 1) = False := eq_false (by omega)
      have hlw : wr.heap.size <= w1.heap.size := hbw1.size
      by_cases h2 : K = 2
      · subst h2
        rw [if_pos rfl] at hnx hnv
        have hF := fun W (hW : Below w1.heap.size w1 W) => qkw A1 c1 s1 W (by omega) (hR1.below hW nlq)
        have hrt : (fromN rightB s1 12000).s ≠ none -> rightB (fromN rightB s1 12000).i (fromN rightB s1 12000).t (fromN rightB s1 12000).d.length = true := fun h => qb0 h
        generalize fromN rightB s1 12000 = R at *
        obtain ⟨fi,ft,fd,s2⟩ := R
        dsimp only at *
        go_wp2_with fail
        refine (hF _ (by first | exact hbX | exact hbX.drew)).mono ?_
        rintro e w3 ⟨D,n,dc,A2,c2,rfl,hl3,hn3,hr2,hb3,hc3⟩
        obtain rfl := hl3.1
        have hz13 : w1.heap.size + 1 < w3.heap.size := by have := hb3.size; simp at this; omega
        have hbw3 : Below wr.heap.size wr w3 := hbw1.trans ((hbX.trans (hb3.mono hbX.size)).mono hlw)
        have rH3 := (hbw3.block _ hw1).trans hT.hard
        have rI3 := (hb3.block w1.heap.size (by simp; omega)).trans rI
        have rE3 := (hb3.block (w1.heap.size + 1) (by simp)).trans rE
        obtain ⟨_,⟨fE0,fE1,fE2⟩⟩ := row3 rE3
        obtain ⟨_,⟨fI0,fI1⟩⟩ := row2 rI3
        have hzI : w1.heap.size < w3.heap.size := by omega
        obtain ⟨sa,sb,sc⟩ := qlw w3 (w1.heap.size + 1) w1.heap.size (by omega) (.int .i64 fi) (.int .i64 ft) (.slice D fd.length dc) (.slice A2 (left s2) c2) (.bool s2.isNone)
        have hb4 := qif (hT.below.trans (hbw3.mono hT.below.size)) (p := w1.heap.size + 1) (q := w1.heap.size) (by omega) (by omega) (.int .i64 fi) (.int .i64 ft) (.slice D fd.length dc) (.slice A2 (left s2) c2) (.bool s2.isNone)
        have rE4 := sb _ _ _ _ rE3
        have rI4 := sc _ _ _ rI3
        have rH4 := (sa (w.heap.size + 1) (by omega) (by omega)).trans rH3
        have r04 := (sa w.heap.size (by omega) (by omega)).trans (hbw3.block _ hw0)
        have hE4 := hT.ents.keep (by simp [World.setCell]; omega) fun q hq hz => (sa q (by omega) (by omega)).trans (hbw3.block q hq)
        have hz4 : (((((w3.setCell ⟨w1.heap.size + 1,0,none⟩ (.int .i64 fi)).setCell ⟨w1.heap.size + 1,1,none⟩ (.int .i64 ft)).setCell ⟨w1.heap.size + 1,2,none⟩ (.slice D fd.length dc)).setCell ⟨w1.heap.size,0,none⟩ (.slice A2 (left s2) c2)).setCell ⟨w1.heap.size,1,none⟩ (.bool s2.isNone)).heap.size = w3.heap.size := by simp [World.setCell]
        have hn3' : 0 < fd.length -> ∀ q o,D = some ⟨q,o,none⟩ -> w1.heap.size + 2 <= q := fun h0 q o e => by have := hn3 h0 q o e; simp at this; omega
        have hl4 := hl3.keep (w' := (((((w3.setCell ⟨w1.heap.size + 1,0,none⟩ (.int .i64 fi)).setCell ⟨w1.heap.size + 1,1,none⟩ (.int .i64 ft)).setCell ⟨w1.heap.size + 1,2,none⟩ (.slice D fd.length dc)).setCell ⟨w1.heap.size,0,none⟩ (.slice A2 (left s2) c2)).setCell ⟨w1.heap.size,1,none⟩ (.bool s2.isNone))) (by rw [hz4]; exact nlq) fun h0 q o e hq => sa q (by have := hn3' h0 q o e; omega) (by have := hn3' h0 q o e; omega)
        clear sa sb sc rH3 rI3 rE3 rI rE hbX hb3 hbw3 hF hR1 hl3 hn3
        go_upto_region 13 with fail
        clear fE0 fE1 fE2 fI0 fI1
        generalize (((((w3.setCell ⟨w1.heap.size + 1,0,none⟩ (.int .i64 fi)).setCell ⟨w1.heap.size + 1,1,none⟩ (.int .i64 ft)).setCell ⟨w1.heap.size + 1,2,none⟩ (.slice D fd.length dc)).setCell ⟨w1.heap.size,0,none⟩ (.slice A2 (left s2) c2)).setCell ⟨w1.heap.size,1,none⟩ (.bool s2.isNone)) = W4 at *
        obtain ⟨⟨y0,y1⟩,_⟩ := row2 rI4
        have hD := fun W => qdI A2 c2 s2 W
        generalize hdd : decide (s2 = some []) = dd at hD
        go_wp2_with fail
        refine (hD _).mono ?_
        rintro e w5 ⟨rfl,hb5⟩
        have hb5w := hb4.trans (hb5.mono hb4.size)
        have r05 := (hb5.block w.heap.size (by omega)).trans r04
        have rH5 := (hb5.block (w.heap.size + 1) (by omega)).trans rH4
        have rE5 := (hb5.block (w1.heap.size + 1) (by omega)).trans rE4
        have hE5 := hE4.below hb5 nlq
        have hl5 := hl4.below hb5 nlq
        have hz5 : w.heap.size + 1 < w5.heap.size := by have := hb5.size; omega
        have hz50 : w.heap.size < w5.heap.size := by omega
        clear hD hb4 hb5 rH4 rI4 r04 hE4 y0 y1 hz4 hz13 rE4 hl4
        cases dd with
        | true =>
          have hs2 := of_decide_eq_true hdd
          rw [if_pos hs2] at hnx hnv
          have hrr := hrt (by rw [hs2]; simp)
          have hri := (qaB _ _ _).1 hrr
          have hLO : qZ w5 (w.heap.size + 2 <= ·) ⟨⟨fi,ft,fd⟩,D,dc⟩ := ⟨hc3,hl5,fun h0 q o e => by have := hn3' h0 q o e; show w.heap.size + 2 <= q; omega⟩
          have hP := fun W (hW : Below w5.heap.size w5 W) => qkv (w.heap.size + 2 <= ·) Ao lq.length co lq ⟨⟨fi,ft,fd⟩,D,dc⟩ W (hE5.below hW nlq) (hLO.keep hW.size fun q hq _ => hW.block q hq) (fun q hq => by have := hW.size; omega) (by have := hT.few; omega) (by dsimp only; omega)
          unfold PutR at hP
          dsimp only at hP hnx hnv
          obtain ⟨⟨e0,e1,e2⟩,_⟩ := row3 rE5
          clear hE5 hl5 hc3 hn3' hLO hrt hri hrr
          generalize hpe : putE lq ⟨fi,ft,fd⟩ = pe at *
          cases pe with
          | none =>
            have HV := Lib.hid (hnv rfl)
            go_wp2_with fail
            refine (hP _ blq).mono ?_
            rintro e w6 ⟨hb6,rfl⟩
            have r06 := (hb6.block w.heap.size hz50).trans r05
            have hb6w := hb5w.trans (hb6.mono hb5w.size)
            have hz6 : w.heap.size < w6.heap.size := by have := hb6.size; omega
            clear hP r05 rH5 rE5 hb5w hb6 e0 e1 e2
            have HB := Lib.hid hb6w
            have HZ := Lib.hid (r06.trans hT.zero)
            obtain ⟨_,⟨f0,f1⟩⟩ := row2 HZ.out
            clear hnx hnv hT r06 hb6w
            go_wp2
            refine bodyPost_ret (qJ (n := w.heap.size) rfl rfl (qR _ _ _ _ _ _ _ HZ.out) Tryz.underlying32 rfl (by kernel_rfl)) rfl ?_
            unfold qdB
            rw [HV.out]
            exact ⟨(HB.out.setCell nlq _).setCell nlq _,rfl⟩
          | some m =>
            have hml := qlu hpe
            go_wp2_with fail
            refine (hP _ blq).mono ?_
            rintro e w6 ⟨hb6,A',c',rfl,hE6⟩
            have HN := Lib.hid (hT.turn (h' := hq) (l' := m) (A' := A') (c' := c') (hb5w.trans (hb6.mono hb5w.size)) ((hb6.block w.heap.size hz50).trans r05) ((hb6.block _ hz5).trans rH5) hE6 (by have := hT.few; omega) hnx)
            clear hP hnx hnv hT r05 rH5 rE5 hb5w hb6 hE6 e0 e1 e2
            go_wp2
            go_roundg (gk - 1)
            case measure => have : k + gk = len := HK.out; omega
            case rel => exact ⟨k + 1,A',c',hq,m,by have : k + gk = len := HK.out; omega,by go_num,rfl,HN.out⟩
        | false =>
          rw [if_neg (of_decide_eq_false hdd)] at hnv
          have HV := Lib.hid (hnv rfl)
          have HB := Lib.hid hb5w
          have HZ := Lib.hid (r05.trans hT.zero)
          obtain ⟨_,⟨f0,f1⟩⟩ := row2 HZ.out
          clear hnx hnv hT hb5w r05 rH5 rE5 hE5 hl5
          go_wp2
          refine bodyPost_ret (qJ (n := w.heap.size) rfl rfl (qR _ _ _ _ _ _ _ HZ.out) Tryz.underlying32 rfl (by kernel_rfl)) rfl ?_
          unfold qdB
          rw [HV.out]
          exact ⟨(HB.out.setCell nlq _).setCell nlq _,rfl⟩
      · rw [if_neg h2] at hnx hnv
        have hk2 : ((K : Int) == 2) = false := by simp; omega
        have hk2' : ((K : Int) = 2) = False := eq_false (by omega)
        have HV := Lib.hid (hnv rfl)
        have hbwX := hbw1.trans (hbX.mono hlw)
        have hb5w := hT.below.trans (hbwX.mono hT.below.size)
        have r05 := hbwX.block w.heap.size hw0
        have hz5 : w.heap.size < w1.heap.size := by omega
        have hzX : w.heap.size < ((w1.alloc (.cells #[.slice A1 (left s1) c1, .bool s1.isNone] 171)).alloc (.cells #[.int .i64 0, .int .i64 0, .slice none 0 0] 69)).heap.size := by simp; omega
        clear hbwX hR1 rE rI hbX
        go_upto_region 13 with fail
        generalize ((w1.alloc (.cells #[.slice A1 (left s1) c1, .bool s1.isNone] 171)).alloc (.cells #[.int .i64 0, .int .i64 0, .slice none 0 0] 69)) = X at *
        have HB := Lib.hid hb5w
        have HZ := Lib.hid (r05.trans hT.zero)
        obtain ⟨_,⟨f0,f1⟩⟩ := row2 HZ.out
        clear hnx hnv hT hb5w r05
        go_wp2
        refine bodyPost_ret (qJ (n := w.heap.size) rfl rfl (qR _ _ _ _ _ _ _ HZ.out) Tryz.underlying32 rfl (by kernel_rfl)) rfl ?_
        unfold qdB
        rw [HV.out]
        exact ⟨(HB.out.setCell nlq _).setCell nlq _,rfl⟩
  · obtain rfl : k = len := by omega
    have hkk : ¬ ((k : Int) < (k : Int)) := by omega
    have hall : tells (ts.map btl) = some (hq,lq) := by
     have := hT.told
     rw [List.take_of_length_le (by omega)] at this
     exact this
    have HT := Lib.hid hT
    obtain ⟨⟨x0,x1⟩,_⟩ := row2 hT.hard
    obtain ⟨_,⟨f0,f1⟩⟩ := row2 hT.zero
    have HA := Lib.hid hall
    clear hT hall h
    go_wp2
    refine bodyPost_ret (qJ (n := w.heap.size) rfl rfl (qR _ _ _ _ _ _ _ HT.out.zero) Tryz.underlying32 rfl (by kernel_rfl)) rfl ?_
    unfold qdB
    rw [HA.out]
    refine ⟨(HT.out.below.setCell nlq _).setCell nlq _,Ao,co,rfl,?_,by rw [hll]; exact HT.out.few⟩
    exact (HT.out.ents.keep (by simp [World.setCell]) fun q hq hz => (Below.heap_setCell _ _ _ _ (by show q ≠ w.heap.size; have : w.heap.size + 2 <= q := hz; omega)).trans (Below.heap_setCell _ _ _ _ (by show q ≠ w.heap.size; have : w.heap.size + 2 <= q := hz; omega))).mono fun q hz => by have : w.heap.size + 2 <= q := hz; show w.heap.size <= q; omega
end Go.Proofs.YtmeoooojmhhahaaGreat
