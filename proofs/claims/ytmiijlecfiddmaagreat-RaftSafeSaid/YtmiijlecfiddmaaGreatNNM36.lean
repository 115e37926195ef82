/- What a node keeps is what it has: fresh entries behind those that were kept. Plain mathematics. -/
import Derived.Test.YtmiijlecfiddmaaGreatNNM35
set_option linter.unusedVariables false
set_option linter.unusedSimpArgs false
set_option maxRecDepth 100000
set_option maxHeartbeats 200000
namespace Go.Proofs.YtmiijlecfiddmaaGreat
def Since (l0 : List Ent) (g : RL) : Prop := g.f = 0 /\ g.l = l0 \/ g.i < g.f /\ g.f <= g.i + g.l.length /\ (l0.filter fun e => decide (e.i < g.f)) = g.l.take (g.f - g.i - 1).toNat
section
variable {F : List Ent} {g : RL} {l0 : List Ent}
theorem filter_all {l : List Ent} {i x : Int} (h : qX i l) (hx : i + l.length < x) : (l.filter fun e => decide (e.i < x)) = l := by
 rw [filter_lt h,List.take_of_length_le (by omega)]
theorem Since.add (h : Since l0 g) (G : Full F g) {t : Int} {d : List UInt8} {g' : RL} (ha : g.add t d = some g') : Since l0 g' := by
 unfold RL.add at ha
 split at ha
 · obtain rfl := Option.some.inj ha;have hl := G.good.lastI;have hi0 := G.i0;unfold RL.mark;rcases h with ⟨h1,h2⟩ | ⟨h1,h2,h3⟩
   · rw [if_pos (.inl h1)];refine .inr ⟨?_,?_,?_⟩
     · show g.i < g.lastI + 1;omega
     · show g.lastI + 1 <= g.i + ((g.l ++ [_]).length : Nat);rw [List.length_append,List.length_singleton];omega
     · show (l0.filter fun e => decide (e.i < g.lastI + 1)) = (g.l ++ [_]).take (g.lastI + 1 - g.i - 1).toNat
       rw [<- h2,filter_all G.good.one (by omega),List.take_append_of_le_length (by omega),List.take_of_length_le (by omega)]
   · rw [if_neg (by show ¬ (g.f = 0 \/ g.lastI + 1 < g.f); omega)];refine .inr ⟨h1,?_,?_⟩
     · show g.f <= g.i + ((g.l ++ [_]).length : Nat);rw [List.length_append,List.length_singleton];omega
     · show _ = (g.l ++ [_]).take (g.f - g.i - 1).toNat
       rw [List.take_append_of_le_length (by omega)];exact h3
 · cases ha
theorem qf2 (l : List Ent) {a b : Int} (h : a <= b) : (l.filter fun e => decide (e.i < a)) = ((l.filter fun e => decide (e.i < b)).filter fun e => decide (e.i < a)) := by
 rw [List.filter_filter]
 apply List.filter_congr
 intro e _
 by_cases he : e.i < a
 · rw [decide_eq_true he,decide_eq_true (by omega)]; rfl
 · rw [decide_eq_false he]; rfl
theorem qjZ {l : List Ent} {i : Int} (h : qX i l) (k : Nat) : qX i (l.take k) := fun j hj => by
 rw [List.getElem_take];exact h j (by rw [List.length_take] at hj; omega)
theorem Since.swap (h : Since l0 g) (G : Full F g) {more : List Ent} (J : Joins g more) : Since l0 (g.swap more) := by
 match more,J with
 | [],J => exact absurd J.h0 (by simp)
 | e :: m,J =>
   have hi0 := G.i0;have hone := G.good.one;obtain ⟨k1,k2⟩ := qcP J;have k2 : ((g.keep (e :: m) : Nat) : Int) = e.i - g.i - 1 := k2;have hlo : g.i < e.i := J.lo;have hfl : (g.l.filter fun y => decide (y.i < e.i)) = g.l.take (e.i - g.i - 1).toNat := filter_lt hone _
   have hkl : (g.l.take (e.i - g.i - 1).toNat).length = (e.i - g.i - 1).toNat := by rw [List.length_take]; omega
   unfold RL.swap RL.mark;dsimp only;rw [hfl];rcases h with ⟨h1,h2⟩ | ⟨h1,h2,h3⟩
   · rw [if_pos (.inl h1)];refine .inr ⟨hlo,?_,?_⟩
     · show e.i <= g.i + ((_ ++ _ : List Ent).length : Nat);rw [List.length_append,hkl,List.length_cons];omega
     · show (l0.filter fun y => decide (y.i < e.i)) = (_ ++ _ : List Ent).take (e.i - g.i - 1).toNat
       rw [<- h2,hfl,List.take_append_of_le_length (by omega),List.take_take,Nat.min_self]
   · by_cases hlt : e.i < g.f
     · rw [if_pos (.inr hlt)];refine .inr ⟨hlo,?_,?_⟩
       · show e.i <= g.i + ((_ ++ _ : List Ent).length : Nat);rw [List.length_append,hkl,List.length_cons];omega
       · show (l0.filter fun y => decide (y.i < e.i)) = (_ ++ _ : List Ent).take (e.i - g.i - 1).toNat
         rw [qf2 l0 (Int.le_of_lt hlt),h3,filter_lt (qjZ hone _),List.take_append_of_le_length (by omega),List.take_take,List.take_take]
         congr 1
         omega
     · rw [if_neg (by omega)];refine .inr ⟨h1,?_,?_⟩
       · show g.f <= g.i + ((_ ++ _ : List Ent).length : Nat);rw [List.length_append,hkl,List.length_cons];omega
       · show _ = (_ ++ _ : List Ent).take (g.f - g.i - 1).toNat
         rw [h3,List.take_append_of_le_length (by omega),List.take_take,Nat.min_eq_left (by omega)]
theorem Since.take (h : Since l0 g) (G : Full F g) (x t : Int) (more : List Ent) : Since l0 (g.take x t more).1 := by
 unfold RL.take
 split
 · rename_i hr
   split
   · rename_i ha
     by_cases hk : g.known more < more.length
     · exact h.swap G (G.good.joins hr ha hk)
     · rw [List.drop_of_length_le (by omega)];exact h
   · exact h
 · exact h
theorem Since.all (h : Since l0 g) (G : Full F g) : (match g.changed with | [] => l0 | e :: _ => (l0.filter fun x => decide (x.i < e.i)) ++ g.changed) = g.l := by
 have hi0 := G.i0;have hone := G.good.one;rcases h with ⟨h1,h2⟩ | ⟨h1,h2,h3⟩
 · have : g.changed = [] := by
    unfold RL.changed;rw [h1];simp
   rw [this];exact h2.symm
 · have hc : g.changed = g.l.drop (g.f - g.i - 1).toNat := G.good.changed (.inr ⟨by omega,h2,rfl⟩)
   have hlt : (g.f - g.i - 1).toNat < g.l.length := by omega
   rw [hc];rw [List.drop_eq_getElem_cons hlt];dsimp only
   have e : (g.l[(g.f - g.i - 1).toNat]).i = g.f := by rw [hone _ hlt]; omega
   rw [e,h3,<- List.drop_eq_getElem_cons hlt,List.take_append_drop]
end
structure Kept (l0 : List Ent) (s0 : Ent) (r : Node) : Prop where
 yes : r.kp = true -> 0 < r.sn.i
 no : r.kp = false -> r.sn = s0 /\ Since l0 r.lg
section
variable {n : Nat} {K : Int} {all : List Ent} {w : W} {k : Nat} {r : Node} {l0 : List Ent} {s0 : Ent}
theorem Kept.like (h : Kept l0 s0 r) {r' : Node} (h1 : r'.lg = r.lg) (h2 : r'.sn = r.sn) (h3 : r'.kp = r.kp) : Kept l0 s0 r' :=
 ⟨by rw [h2,h3]; exact h.yes,by rw [h1,h2,h3]; exact h.no⟩
structure Like (r r' : Node) : Prop where
 lg : r'.lg = r.lg
 sn : r'.sn = r.sn
 kp : r'.kp = r.kp
theorem Like.refl (r : Node) : Like r r := ⟨rfl,rfl,rfl⟩
theorem Like.trans {a b c : Node} (h : Like a b) (h' : Like b c) : Like a c := ⟨h'.lg.trans h.lg,h'.sn.trans h.sn,h'.kp.trans h.kp⟩
theorem Kept.of (h : Kept l0 s0 r) {r' : Node} (L : Like r r') : Kept l0 s0 r' := h.like L.lg L.sn L.kp
theorem qa4 (r : Node) (m : Msg) : Like r (r.say m) := ⟨rfl,rfl,rfl⟩
theorem qbQ (r : Node) (t l : Int) : Like r (r.fall t l) := ⟨rfl,rfl,rfl⟩
theorem qcM (r : Node) (j : Nat) : Like r (r.send j) := by unfold Node.send; split <;> exact ⟨rfl,rfl,rfl⟩
theorem qev {β : Type} (f : Node -> β -> Node) (l : List β) (h : ∀ a b,Like a (f a b)) (r : Node) : Like r (l.foldl f r) :=
 foldl_keeps (fun x => Like r x) f l (fun a b _ ha => ha.trans (h a b)) r (.refl r)
theorem qaA (r : Node) : Like r r.sendAll := qev _ _ qcM r
theorem qf3 (r : Node) (a t : Int) : Like r (r.ask a t) := qev _ _ (fun x j => qa4 x _) r
theorem qbW (r : Node) : Like r r.settle.1 := by unfold Node.settle; dsimp only; split <;> exact ⟨rfl,rfl,rfl⟩
theorem qcN (r : Node) : Like r r.tell := ⟨rfl,rfl,rfl⟩
theorem qiU (r : Node) (m : Msg) : Like r (r.poll m) := by unfold Node.poll; split <;> exact ⟨rfl,rfl,rfl⟩
theorem qiV (r : Node) (m : Msg) : Like r (r.vote m) := by unfold Node.vote; split <;> exact ⟨rfl,rfl,rfl⟩
theorem Kept.grown (h : Kept l0 s0 r) {F : List Ent} (G : Full F r.lg) (d : List UInt8) {r' : Node} (h1 : r'.lg = r.grown d) (h2 : r'.sn = r.sn) (h3 : r'.kp = r.kp) : Kept l0 s0 r' := by
 refine ⟨by rw [h2,h3]; exact h.yes,fun hk => ?_⟩;rw [h3] at hk;obtain ⟨a,b⟩ := h.no hk;rw [h1,h2];refine ⟨a,?_⟩;unfold Node.grown
 cases ha : r.lg.add r.ht d with
 | none => exact b
 | some g' => exact b.add G ha
theorem qew (h : Kept l0 s0 r) {F : List Ent} (G : Full F r.lg) : Kept l0 s0 r.rise := by
 unfold Node.rise;dsimp only;refine Kept.of ?_ ((qbW _).trans (qaA _));exact h.grown G [] rfl rfl rfl
theorem qf4 (h : Kept l0 s0 r) {F : List Ent} (G : Full F r.lg) : Kept l0 s0 r.run := by
 unfold Node.run;dsimp only
 split
 · exact qew (h.like rfl rfl rfl) (F := F) G
 · refine Kept.of ?_ (qf3 _ _ _);exact h.like rfl rfl rfl
theorem qiW (h : Kept l0 s0 r) {F : List Ent} (G : Full F r.lg) : Kept l0 s0 r.tick := by
 unfold Node.tick;dsimp only
 split
 · exact (h.like (r' := { r with wk := 0 }) rfl rfl rfl).of (qaA _)
 · split
   · exact h.like rfl rfl rfl
   · split
     · exact qf4 (h.like rfl rfl rfl) (F := F) G
     · exact (h.like (r' := Node.count _ 1) rfl rfl rfl).of (qf3 _ _ _)
theorem qf5 (h : Kept l0 s0 r) {F : List Ent} (G : Full F r.lg) (d : List UInt8) : Kept l0 s0 (r.propose d).1 := by
 unfold Node.propose
 split
 · exact h
 · split
   · exact h
   · split
     · exact h
     · exact (h.grown G d (r' := { r with lg := r.grown d }) rfl rfl rfl).of ((qbW _).trans (qaA _))
theorem qiX (h : Kept l0 s0 r) : Kept l0 s0 r.read.1 := by
 unfold Node.read
 split
 · exact h
 · split
   · exact h
   · dsimp only;exact (h.like (r' := { r with cx := r.cx + 1,rd := r.rd ++ [(r.cx + 1,r.cm)] }) rfl rfl rfl).of ((qcN _).trans (qaA _))
theorem qiY (h : Kept l0 s0 r) {F : List Ent} (G : Full F r.lg) (m : Msg) : Kept l0 s0 (r.said m) := by
 unfold Node.said
 split
 · exact h
 · split
   · exact h
   dsimp only
   suffices H : ∀ r1 : Node,Kept l0 s0 r1 -> Full F r1.lg -> Kept l0 s0 (if Node.won (r1.yes 1) r1.n = true then (if r.ro = 1 then r1.run else r1.rise) else if Node.lost (r1.yes 2) r1.n = true then r1.fall r1.ht (-1) else r1) from H { r with sy := Node.put r.sy m.f.toNat (if m.b = true then 1 else 2) } (h.like rfl rfl rfl) G
   intro r1 h1 G1
   split
   · split
     · exact qf4 h1 G1
     · exact qew h1 G1
   · split
     · exact h1.of (qbQ _ _ _)
     · exact h1
theorem qj0 (h : Kept l0 s0 r) {F : List Ent} (G : Full F r.lg) (m : Msg) : Kept l0 s0 (r.app m) := by
 unfold Node.app
 split
 · exact h
 · dsimp only;have h1 := h.of (qbQ r m.t m.f)
   split
   · exact h1.of (qa4 _ _)
   · refine Kept.of ?_ (qa4 _ _);refine ⟨h1.yes,fun hk => ?_⟩;obtain ⟨a,b⟩ := h1.no hk;exact ⟨a,b.take (F := F) G _ _ _⟩
theorem qhl (h : Kept l0 s0 r) (m : Msg) (h0 : r.cm < m.s.i -> 0 < m.s.i) : Kept l0 s0 (r.whole m) := by
 unfold Node.whole
 split
 · exact h
 · dsimp only;have h1 := h.of (qbQ r m.t m.f);refine Kept.of ?_ (qa4 _ _)
   split
   · rename_i hlt
     split
     · exact h1.like rfl rfl rfl
     · exact ⟨fun _ => h0 hlt,fun hk => by cases hk⟩
   · exact h1
theorem qhm (h : Kept l0 s0 r) (m : Msg) : Kept l0 s0 (r.apped m) := by
 unfold Node.apped
 split
 · exact h
 · dsimp only
   have h1 : Kept l0 s0 (if m.x <= r.cx /\ r.ac m.f.toNat < m.x then { r with ac := Node.put r.ac m.f.toNat m.x } else r) := by
    split
    · exact h.like rfl rfl rfl
    · exact h
   generalize (if m.x <= r.cx /\ r.ac m.f.toNat < m.x then { r with ac := Node.put r.ac m.f.toNat m.x } else r) = r1 at h1 ⊢
   split
   · refine Kept.of ?_ ((qcM _ _).trans (qcN _));exact h1.like rfl rfl rfl
   · refine Kept.of ?_ (qcN _)
     have h2 : Kept l0 s0 ({ r1 with ma := Node.put r1.ma m.f.toNat (max (r1.ma m.f.toNat) (min m.i r1.lg.lastI)),nx := Node.put r1.nx m.f.toNat (max (r1.nx m.f.toNat) (Node.put r1.ma m.f.toNat (max (r1.ma m.f.toNat) (min m.i r1.lg.lastI)) m.f.toNat + 1)) } : Node).settle.1 := by
      refine Kept.of ?_ (qbW _);exact h1.like rfl rfl rfl
     split
     · exact h2.of (qaA _)
     · split
       · exact h2.of (qcM _ _)
       · exact h2
theorem qiZ (h : Kept l0 s0 r) {F : List Ent} (G : Full F r.lg) (m : Msg) (h0 : m.k = 7 -> 0 < m.s.i) (hk : 1 <= m.k /\ m.k <= 7) : Kept l0 s0 (r.step m) := by
 unfold Node.step
 split
 · split
   · exact h.of (qa4 _ _)
   · split
     · exact h.of (qa4 _ _)
     · exact h
 · dsimp only
   have h1 : Kept l0 s0 (if r.ht < m.t /\ m.k ≠ 1 /\ (m.k ≠ 2 \/ m.b = false) then r.fall m.t (if m.k = 5 \/ m.k = 7 then m.f else -1) else r) /\ Full F (if r.ht < m.t /\ m.k ≠ 1 /\ (m.k ≠ 2 \/ m.b = false) then r.fall m.t (if m.k = 5 \/ m.k = 7 then m.f else -1) else r).lg := by
    split
    · exact ⟨h.of (qbQ _ _ _),G⟩
    · exact ⟨h,G⟩
   generalize (if r.ht < m.t /\ m.k ≠ 1 /\ (m.k ≠ 2 \/ m.b = false) then r.fall m.t (if m.k = 5 \/ m.k = 7 then m.f else -1) else r) = r1 at h1 ⊢;obtain ⟨h1,G1⟩ := h1
   split
   · exact h1.of (qiU _ _)
   · split
     · exact qiY h1 G1 m
     · split
       · exact h1.of (qiV _ _)
       · split
         · exact qj0 h1 G1 m
         · split
           · exact qhm h1 m
           · exact qhl h1 m (fun _ => h0 (by omega))
end
end Go.Proofs.YtmiijlecfiddmaaGreat
set_option linter.unusedVariables false
set_option linter.unusedSimpArgs false
set_option maxRecDepth 100000
set_option maxHeartbeats 200000
namespace Go.Proofs.YtmiijlecfiddmaaGreat
def qdI (n : Nat) (w : W) (T c : Int) : Prop := ∃ q,RafCore.maj n q /\ ∀ a,q a = true -> T < w.g.term a /\ w.rac a T < c
structure RdOk (n : Nat) (w : W) (rds : List qar) (k : Nat) (r : Node) : Prop where
 lo : ∀ x ∈ rds,x.at_ = k -> x.c <= w.cxx x.t /\ ∃ Y,w.g.ll x.t = some (k,Y)
 rd : ∀ x ∈ rds,x.at_ = k -> x.t = r.ht -> ∀ y ∈ r.rd,y.1 = x.c -> (x.w : Int) <= y.2 \/ qdI n w x.t x.c
 td : ∀ x ∈ rds,x.at_ = k -> x.t = r.ht -> ∀ y ∈ r.td,y.1 = x.c -> (x.w : Int) <= y.2
def Quiet (r r' : Node) : Prop := r'.td = r.td /\ (r'.rd = [] \/ r'.rd = r.rd /\ r'.ht = r.ht)
section
variable {n : Nat} {K : Int} {all : List Ent} {w w' : W} {k j : Nat} {r r' : Node} {rds : List qar} {m : Msg}
theorem qdI.step {T c : Int} (h : qdI n w T c) (S : Step j w w') : qdI n w' T c := by
 obtain ⟨q,h1,h2⟩ := h;refine ⟨q,h1,fun a ha => ?_⟩;obtain ⟨h3,h4⟩ := h2 a ha;exact ⟨Int.lt_of_lt_of_le h3 (S.tm a),by rw [S.rl a T h3]; exact h4⟩
theorem RdOk.step (R : RdOk n w rds k r) (S : Step j w w') : RdOk n w' rds k r where
 lo x hx hk := by
  obtain ⟨h1,Y,h2⟩ := R.lo x hx hk;obtain ⟨Y',h3,_⟩ := S.ll _ _ _ h2;exact ⟨Int.le_trans h1 (S.cx _),Y',h3⟩
 rd x hx hk ht y hy hc := (R.rd x hx hk ht y hy hc).imp_right fun h => h.step S
 td := R.td
theorem RdOk.quiet (R : RdOk n w rds k r) (h0 : r.td = []) (Q : Quiet r r') : RdOk n w rds k r' where
 lo := R.lo
 rd x hx hk ht y hy hc := by
  rcases Q.2 with h | ⟨h,h1⟩
  · rw [h] at hy; cases hy
  · rw [h] at hy;rw [h1] at ht;exact R.rd x hx hk ht y hy hc
 td x hx hk ht y hy hc := by
  rw [Q.1,h0] at hy;cases hy
theorem RdOk.like (R : RdOk n w rds k r) (h1 : r'.rd = r.rd) (h2 : r'.td = r.td) (h3 : r'.ht = r.ht) : RdOk n w rds k r' where
 lo := R.lo
 rd x hx hk ht y hy hc := R.rd x hx hk (by rw [<- h3]; exact ht) y (by rw [<- h1]; exact hy) hc
 td x hx hk ht y hy hc := R.td x hx hk (by rw [<- h3]; exact ht) y (by rw [<- h2]; exact hy) hc
theorem qeM (r : Node) : r.sendAll.rd = r.rd /\ r.sendAll.td = r.td /\ r.sendAll.ht = r.ht := by
 unfold Node.sendAll;refine foldl_keeps (fun x : Node => x.rd = r.rd /\ x.td = r.td /\ x.ht = r.ht) Node.send r.others (fun a j _ h => ?_) r ⟨rfl,rfl,rfl⟩;unfold Node.send
 split <;> exact h
theorem Quiet.refl (r : Node) : Quiet r r := ⟨rfl, .inr ⟨rfl,rfl⟩⟩
theorem Quiet.trans {a b c : Node} (h : Quiet a b) (h' : Quiet b c) : Quiet a c := by
 refine ⟨h'.1.trans h.1,?_⟩;rcases h'.2 with h1 | ⟨h1,h2⟩
 · exact .inl h1
 · rcases h.2 with h3 | ⟨h3,h4⟩
   · exact .inl (h1.trans h3)
   · exact .inr ⟨h1.trans h3,h2.trans h4⟩
theorem qaB (r : Node) (m : Msg) : Quiet r (r.say m) := ⟨rfl, .inr ⟨rfl,rfl⟩⟩
theorem qbm (r : Node) (t l : Int) : Quiet r (r.fall t l) := ⟨rfl, .inl rfl⟩
theorem qcn (r : Node) (j : Nat) : Quiet r (r.send j) := by unfold Node.send; split <;> exact ⟨rfl, .inr ⟨rfl,rfl⟩⟩
theorem qdJ {β : Type} (f : Node -> β -> Node) (l : List β) (h : ∀ a b,Quiet a (f a b)) (r : Node) : Quiet r (l.foldl f r) :=
 foldl_keeps (fun x => Quiet r x) f l (fun a b _ ha => ha.trans (h a b)) r (.refl r)
theorem qaH (r : Node) : Quiet r r.sendAll := qdJ _ _ qcn r
theorem qex (r : Node) (a t : Int) : Quiet r (r.ask a t) := qdJ _ _ (fun x j => qaB x _) r
theorem qbC (r : Node) : Quiet r r.settle.1 := by unfold Node.settle; dsimp only; split <;> exact ⟨rfl, .inr ⟨rfl,rfl⟩⟩
theorem qhn (r : Node) (m : Msg) : Quiet r (r.poll m) := by unfold Node.poll; split <;> exact qaB _ _
theorem qho (r : Node) (m : Msg) : Quiet r (r.vote m) := by unfold Node.vote; split <;> exact ⟨rfl, .inr ⟨rfl,rfl⟩⟩
theorem qdK (r : Node) : Quiet r r.rise := by
 unfold Node.rise;dsimp only;refine Quiet.trans ?_ ((qbC _).trans (qaH _));exact ⟨rfl, .inl rfl⟩
theorem qey (r : Node) (h : r.rd = []) : Quiet r r.run := by
 unfold Node.run;dsimp only
 split
 · refine Quiet.trans ?_ (qdK _);exact ⟨rfl, .inl h⟩
 · refine Quiet.trans ?_ (qex _ _ _);exact ⟨rfl, .inl h⟩
theorem qhp (r : Node) (h : r.ro ≠ 3 -> r.rd = []) : Quiet r r.tick := by
 unfold Node.tick;dsimp only
 split
 · refine Quiet.trans ?_ (qaH _);exact ⟨rfl, .inr ⟨rfl,rfl⟩⟩
 · split
   · exact ⟨rfl, .inr ⟨rfl,rfl⟩⟩
   · rename_i hq;have h0 := h (fun h3 => hq (.inl h3))
     split
     · refine Quiet.trans ?_ (qey _ h0);exact ⟨rfl, .inl h0⟩
     · refine Quiet.trans ?_ (qex _ _ _);exact ⟨rfl, .inl h0⟩
theorem qeN (r : Node) (d : List UInt8) : Quiet r (r.propose d).1 := by
 unfold Node.propose
 split
 · exact .refl r
 · split
   · exact .refl r
   · split
     · exact .refl r
     · refine Quiet.trans ?_ ((qbC _).trans (qaH _));exact ⟨rfl, .inr ⟨rfl,rfl⟩⟩
theorem qeO (r : Node) (x : Int) (d : List UInt8) : Quiet r (r.compact x d).1 := by
 unfold Node.compact
 split
 · exact .refl r
 · split
   · exact .refl r
   · exact ⟨rfl, .inr ⟨rfl,rfl⟩⟩
theorem qhq (r : Node) (m : Msg) (h : r.ro ≠ 3 -> r.rd = []) (hk : m.k = 2 \/ m.k = 4) : Quiet r (r.said m) := by
 unfold Node.said
 split
 · exact .refl r
 · rename_i hno;have h0 : r.rd = [] := h (fun h3 => hno (by omega))
   split
   · exact .refl r
   dsimp only
   suffices H : ∀ r1 : Node,Quiet r r1 -> r1.rd = [] -> Quiet r (if Node.won (r1.yes 1) r1.n = true then (if r.ro = 1 then r1.run else r1.rise) else if Node.lost (r1.yes 2) r1.n = true then r1.fall r1.ht (-1) else r1) from H { r with sy := Node.put r.sy m.f.toNat (if m.b = true then 1 else 2) } ⟨rfl, .inl h0⟩ h0
   intro r1 h1 h2
   split
   · split
     · exact h1.trans (qey _ h2)
     · exact h1.trans (qdK _)
   · split
     · exact h1.trans (qbm _ _ _)
     · exact h1
theorem qi0 (r : Node) (m : Msg) : Quiet r (r.app m) := by
 unfold Node.app
 split
 · exact .refl r
 · dsimp only
   split
   · exact (qbm _ _ _).trans (qaB _ _)
   · refine Quiet.trans ?_ (qaB _ _);exact ⟨rfl, .inl rfl⟩
theorem qgn (r : Node) (m : Msg) : Quiet r (r.whole m) := by
 unfold Node.whole
 split
 · exact .refl r
 · dsimp only;refine Quiet.trans ?_ (qaB _ _)
   split
   · split <;> exact ⟨rfl, .inl rfl⟩
   · exact qbm _ _ _
theorem qgF (N : qe n K all w k r.tell) (h3 : r.ro = 3) (R : RdOk n w rds k r) : RdOk n w rds k r.tell := by
 have hid := N.id
 have A : ∀ i,i < n -> i ≠ k -> r.ac i <= w.rac i r.ht := fun i h1 h2 => ((N.r3 h3).2.2.2.2.2 i h1 h2).2.2.2.2
 have htm : w.g.term k = r.ht := N.tm;have ho : r.others = (List.range n).filter fun i => decide (i ≠ k) := N.others;refine ⟨R.lo,fun x hx hk ht y hy hc => R.rd x hx hk ht y ((List.dropWhile_sublist _).subset hy) hc,fun x hx hk ht y hy hc => ?_⟩;rcases List.mem_append.1 hy with hy | hy
 · exact R.td x hx hk ht y hy hc
 · have hmem : y ∈ r.rd := (List.takeWhile_sublist _).subset hy
   have hkn : r.known y.1 = true := by
    have : ∀ l : List (Int × Int),y ∈ l.takeWhile (fun x => r.known x.1) -> r.known y.1 = true := by
     intro l
     induction l with
     | nil => intro h; cases h
     | cons a l ih =>
       intro h
       by_cases ha : r.known a.1 = true
       · rw [List.takeWhile_cons_of_pos (p := fun x : Int × Int => r.known x.1) ha] at h;rcases List.mem_cons.1 h with rfl | h
         · exact ha
         · exact ih h
       · rw [List.takeWhile_cons_of_neg (p := fun x : Int × Int => r.known x.1) ha] at h;cases h
    exact this r.rd hy
   have ht : x.t = r.ht := ht;rcases R.rd x hx hk ht y hmem hc with h | ⟨q,h1,h2⟩
   · exact h
   · exfalso
     have hn2 : r.n = n := hid.2.1;unfold Node.known Node.won at hkn;rw [ho,hn2] at hkn;have hw := (of_decide_eq_true hkn).2.2
     have hm : RafCore.maj n (fun i => if i = k then true else decide (y.1 <= r.ac i)) := by
      unfold RafCore.maj;rw [qbB hid.2.2.1 hid.2.2.2,if_pos (by simp)]
      have e : (((List.range n).filter fun i => decide (i ≠ k)).filter fun i => if i = k then true else decide (y.1 <= r.ac i)) = (((List.range n).filter fun i => decide (i ≠ k)).filter fun i => decide (y.1 <= r.ac i)) := by
       apply List.filter_congr
       intro i hi;have := of_decide_eq_true (List.mem_filter.1 hi).2;rw [if_neg this]
      rw [e];exact hw
     obtain ⟨a,a1,a2,a3⟩ := RafCore.maj_meet h1 hm;obtain ⟨b1,b2⟩ := h2 a a2
     by_cases hak : a = k
     · rw [hak,htm,ht] at b1;omega
     · rw [if_neg hak] at a3;have a3 := of_decide_eq_true a3;have := A a a1 hak;rw [ht] at b2;omega
theorem qi1 (r : Node) (m : Msg) (h3 : r.ro = 3) : ∃ r2,r.apped m = r2.tell /\ r2.ro = 3 /\ Quiet r r2 := by
 unfold Node.apped;rw [if_neg (by omega)];dsimp only
 have h1 : Quiet r (if m.x <= r.cx /\ r.ac m.f.toNat < m.x then { r with ac := Node.put r.ac m.f.toNat m.x } else r) /\ (if m.x <= r.cx /\ r.ac m.f.toNat < m.x then { r with ac := Node.put r.ac m.f.toNat m.x } else r).ro = 3 := by
  split
  · exact ⟨⟨rfl, .inr ⟨rfl,rfl⟩⟩,h3⟩
  · exact ⟨.refl r,h3⟩
 generalize (if m.x <= r.cx /\ r.ac m.f.toNat < m.x then { r with ac := Node.put r.ac m.f.toNat m.x } else r) = r1 at h1 ⊢;obtain ⟨h1,e3⟩ := h1
 have hs : ∀ (x : Node) (i : Nat),x.ro = 3 -> (x.send i).ro = 3 := fun x i hx => by unfold Node.send; split <;> exact hx
 have hsa : ∀ x : Node,x.ro = 3 -> x.sendAll.ro = 3 := fun x hx => foldl_keeps (fun y => y.ro = 3) _ _ (fun a b _ ha => hs a b ha) x hx
 have hse : ∀ x : Node,x.ro = 3 -> x.settle.1.ro = 3 := fun x hx => by unfold Node.settle; dsimp only; split <;> exact hx
 split
 · refine ⟨_,rfl,hs _ _ e3,h1.trans (Quiet.trans ?_ (qcn _ _))⟩;exact ⟨rfl, .inr ⟨rfl,rfl⟩⟩
 · refine ⟨_,rfl,?_,h1.trans ?_⟩
   · split
     · exact hsa _ (hse _ e3)
     · split
       · exact hs _ _ (hse _ e3)
       · exact hse _ e3
   · have q1 : Quiet r1 { r1 with ma := Node.put r1.ma m.f.toNat (max (r1.ma m.f.toNat) (min m.i r1.lg.lastI)),nx := Node.put r1.nx m.f.toNat (max (r1.nx m.f.toNat) (Node.put r1.ma m.f.toNat (max (r1.ma m.f.toNat) (min m.i r1.lg.lastI)) m.f.toNat + 1)) } := ⟨rfl, .inr ⟨rfl,rfl⟩⟩;have q2 := q1.trans (qbC _)
     split
     · exact q2.trans (qaH _)
     · split
       · exact q2.trans (qcn _ _)
       · exact q2
theorem RdOk.step_ok (R : RdOk n w rds k r) (S : Step k w w') (N : qe n K all w k r) (N' : qe n K all w' k (r.step m)) (h0 : r.td = []) (hk : 1 <= m.k /\ m.k <= 7) : RdOk n w' rds k (r.step m) := by
 have R1 := R.step S;unfold Node.step at N' ⊢
 split
 · split
   · exact R1.quiet h0 (qaB _ _)
   · split
     · exact R1.quiet h0 (qaB _ _)
     · exact R1
 · rename_i hge;rw [if_neg hge] at N';dsimp only at N' ⊢
   have h1 : Quiet r (if r.ht < m.t /\ m.k ≠ 1 /\ (m.k ≠ 2 \/ m.b = false) then r.fall m.t (if m.k = 5 \/ m.k = 7 then m.f else -1) else r) ∧
    ((if r.ht < m.t /\ m.k ≠ 1 /\ (m.k ≠ 2 \/ m.b = false) then r.fall m.t (if m.k = 5 \/ m.k = 7 then m.f else -1) else r).ro ≠ 3 -> (if r.ht < m.t /\ m.k ≠ 1 /\ (m.k ≠ 2 \/ m.b = false) then r.fall m.t (if m.k = 5 \/ m.k = 7 then m.f else -1) else r).rd = []) := by
    split
    · exact ⟨qbm _ _ _,fun _ => rfl⟩
    · exact ⟨.refl r,N.rd⟩
   generalize (if r.ht < m.t /\ m.k ≠ 1 /\ (m.k ≠ 2 \/ m.b = false) then r.fall m.t (if m.k = 5 \/ m.k = 7 then m.f else -1) else r) = r1 at h1 N' ⊢;obtain ⟨h1,h2⟩ := h1;have ht1 : r1.td = [] := h1.1.trans h0;have R2 := R1.quiet h0 h1
   by_cases k1 : m.k = 1
   · rw [if_pos k1];exact R2.quiet ht1 (qhn _ _)
   · rw [if_neg k1] at N' ⊢
     by_cases k2 : m.k = 2 \/ m.k = 4
     · rw [if_pos k2];exact R2.quiet ht1 (qhq _ _ h2 k2)
     · rw [if_neg k2] at N' ⊢
       by_cases k3 : m.k = 3
       · rw [if_pos k3];exact R2.quiet ht1 (qho _ _)
       · rw [if_neg k3] at N' ⊢
         by_cases k5 : m.k = 5
         · rw [if_pos k5];exact R2.quiet ht1 (qi0 _ _)
         · rw [if_neg k5] at N' ⊢
           by_cases k6 : m.k = 6
           · rw [if_pos k6] at N' ⊢
             by_cases h3 : r1.ro = 3
             · obtain ⟨r2,e,e3,q⟩ := qi1 r1 m h3;rw [e] at N' ⊢;exact qgF N' e3 (R2.quiet ht1 q)
             · unfold Node.apped;rw [if_pos h3];exact R2
           · rw [if_neg k6];exact R2.quiet ht1 (qgn _ _)
theorem qj1 (O : WOk n K w) (N : qe n K all w k r) (h3 : r.ro = 3) (hat : r.lg.at_ r.cm = some r.ht) (A : ∃ T,Com w T all) : (all.length : Int) <= r.cm \/ qdI n w r.ht (r.cx + 1) := by
 obtain ⟨T,A⟩ := A;obtain ⟨a1,a2,a3,a4,a5,a6⟩ := N.r3 h3;have hcm := N.cm;have hi0 := N.fu.i0;rcases A with rfl | ⟨T0,c,Y,h1,h2,h4,h5⟩
 · left
   show ((0 : Nat) : Int) <= r.cm;omega
 · have hl := h5.length_le;rw [List.length_take] at hl;rcases Int.lt_trichotomy T0 r.ht with hT | rfl | hT
   · left
     obtain ⟨P,q,o1,o2,o3⟩ := O.cm T0 h4;have hP := RafCore.complete_ll O.inv o1 q o2 o3 (Int.le_of_lt hT) a1;obtain ⟨c',Y',e,p1,p2,p3,p4,p5,p6⟩ := o1
     have hPl : P.length = w.cmx T0 := by rw [<- p4,List.length_take]; omega
     have hg : P[w.cmx T0 - 1]? = some e := by rw [<- p4,List.getElem?_take_of_lt (by omega)]; exact p5
     have hF := RafCore.pre_get hP hg;obtain ⟨g1,g2⟩ := List.getElem?_eq_some_iff.1 hF
     obtain ⟨_,b2,b3⟩ := N.fu.at_some hat
     apply Classical.byContradiction
     intro hlt
     have ht1 : 1 <= r.ht := by
      obtain ⟨_,_,_,X,_,hX,_⟩ := O.inv.cll _ _ _ a1;exact (O.cr _ _ _ hX).2.2
     by_cases hc0 : r.cm = 0
     · rw [hc0] at b3;have b3 : r.ht = 0 := b3;omega
     · rw [show r.cm.toNat = (r.cm.toNat - 1) + 1 by omega,qD (by omega)] at b3;have hs := List.pairwise_iff_getElem.1 (O.inv.sl k) (r.cm.toNat - 1) (w.cmx T0 - 1) (by omega) g1 (by omega);rw [g2,p6,<- b3] at hs;omega
   · left
     omega
   · right
     obtain ⟨_,_,_,X,Z,hX,_⟩ := O.inv.cll _ _ _ h2;obtain ⟨q,q1,q2⟩ := O.inv.el _ _ _ _ h2 hX;refine ⟨q,q1,fun a ha => ?_⟩;have := (O.inv.vt _ _ _ (q2 a ha).1).1;have := (O.rx a r.ht).2.1;omega
end
end Go.Proofs.YtmiijlecfiddmaaGreat
set_option linter.unusedVariables false
set_option linter.unusedSimpArgs false
set_option maxRecDepth 100000
set_option maxHeartbeats 200000
namespace Go.Proofs.YtmiijlecfiddmaaGreat
theorem qw {β : Type} (f : Nat -> β) (a : Nat) (v : β) : Sim.upd f a v a = v := by simp [Sim.upd]
theorem qr {β : Type} (f : Nat -> β) {a x : Nat} (v : β) (h : x ≠ a) : Sim.upd f a v x = f x := by simp [Sim.upd,h]
theorem qco {β : Type} (f : Nat -> β) (a : Nat) (v : β) (h : f a = v) : Sim.upd f a v = f := by
 funext x
 by_cases hx : x = a
 · rw [hx,qw,h]
 · rw [qr f v hx]
def qK (r : Node) : Node := { r with lg := { r.lg with f := 0 },kp := false,ms := [],td := [] }
structure Rest (s : Sim) (k : Nat) : Prop where
 ht : s.ht k = (s.r k).ht
 hv : s.hv k = (s.r k).hv
 sn : s.sn k = (s.r k).sn
 lg : s.lg k = (s.r k).lg.l
 r : qK (s.r k) = s.r k
structure qG (n : Nat) (K : Int) (w : W) (s : Sim) : Prop where
 nn : s.n = n /\ 1 <= n /\ n <= 3
 ok : WOk n K w
 nd : ∀ k,k < n -> qe n K s.all w k (s.r k)
 net : ∀ m ∈ s.net,qx n K s.all w m
 ldr : ∀ x ∈ s.ldr,∃ Y,w.g.ll x.1 = some (x.2,Y)
 all : ∃ T,Com w T s.all
 cma : ∀ k,k < n -> (w.g.log k).take (s.r k).cm.toNat <+: s.all
 rest : ∀ k,k < n -> Rest s k
 rds : ∀ k,k < n -> RdOk n w s.rds k (s.r k)
structure Mid (n : Nat) (K : Int) (w : W) (s : Sim) (k : Nat) : Prop where
 nn : s.n = n /\ 1 <= n /\ n <= 3
 kn : k < n
 ok : WOk n K w
 nd : ∀ j,j < n -> qe n K s.all w j (s.r j)
 net : ∀ m ∈ s.net,qx n K s.all w m
 ldr : ∀ x ∈ s.ldr,∃ Y,w.g.ll x.1 = some (x.2,Y)
 all : ∃ T,Com w T s.all
 cma : ∀ j,j < n -> j ≠ k -> (w.g.log j).take (s.r j).cm.toNat <+: s.all
 rest : ∀ j,j < n -> j ≠ k -> Rest s j
 rds : ∀ j,j < n -> RdOk n w s.rds j (s.r j)
 kept : Kept (s.lg k) (s.sn k) (s.r k)
section
variable {n : Nat} {K : Int} {w w' : W} {k : Nat} {s : Sim}
theorem qe.calm {all : List Ent} {r : Node} (N : qe n K all w k r) : qe n K all w k (qK r) :=
 { N with
  fu := N.fu.kept 0
  ms := fun m hm => by cases hm }
theorem qk0 (O : WOk n K w) (N : qe n K s.all w k (s.r k)) (P : Kept (s.lg k) (s.sn k) (s.r k)) :
 (s.keep k).1 = { s with r := Sim.upd s.r k (qK (s.r k)),ht := Sim.upd s.ht k (s.r k).ht,hv := Sim.upd s.hv k (s.r k).hv,sn := Sim.upd s.sn k (s.r k).sn,lg := Sim.upd s.lg k (s.r k).lg.l,net := s.net ++ (s.r k).ms.take (100 - s.net.length) } /\ (s.keep k).2.td = (s.r k).td := by
 refine ⟨?_,rfl⟩;have hlen := qcX (O.lr k);have hi0 := N.fu.i0;unfold Sim.keep Node.took;dsimp only
 cases hk : (s.r k).kp with
 | true =>
   have hp := P.yes hk;rw [if_pos rfl,if_pos hp]
   have e : Node.part { s.r k with lg := { (s.r k).lg with f := 0 },kp := false,ms := [],td := [] } ((s.r k).sn.i + 1) 1099511627776 = (s.r k).lg.l := by
    have h1 := N.part 1099511627776;rw [N.sn.1];refine Eq.trans h1 ?_;rw [N.fu.l,List.take_of_length_le (by rw [List.length_drop]; omega)]
   rw [e]
   rfl
 | false =>
   obtain ⟨e,hs⟩ := P.no hk;have hall := hs.all N.fu;rw [if_neg Bool.false_ne_true,if_neg (show ¬ (0 : Int) < Node.noEnt.i by decide)]
   cases hc : (s.r k).lg.changed with
   | nil =>
     rw [hc] at hall;dsimp only at hall ⊢;rw [qco s.sn k _ e.symm,qco s.lg k _ hall]
     rfl
   | cons x l =>
     rw [hc] at hall;dsimp only at hall ⊢;rw [hall,qco s.sn k _ e.symm]
     rfl
theorem qk1 {s : Sim} {l : List (Int × Int)} {r : Node} (R : RdOk n w s.rds k r) (hl : l = r.td) (ht : (s.r k).ht = r.ht) : s.told k l = true := by
 unfold Sim.told;rw [List.all_eq_true];intro y hy;rw [List.all_eq_true];intro x hx;rw [hl] at hy;rw [Bool.not_eq_true',Bool.eq_false_iff];intro h;simp only [Bool.and_eq_true,decide_eq_true_eq] at h;obtain ⟨h1,h2,h3,h4⟩ := h;have := R.td x hx h1 (by rw [h3,ht]) y hy h2.symm;omega
theorem RdOk.calm {rds : List qar} {r : Node} (R : RdOk n w rds k r) : RdOk n w rds k (qK r) :=
 ⟨R.lo,R.rd,fun x hx hk ht y hy => by cases hy⟩
theorem Mid.look (M : Mid n K w s k) : (s.look k).2 = true /\ qG n K w (s.look k).1 := by
 obtain ⟨l1,l2,l,l3⟩ := qkZ (M.nd k M.kn) M.ldr;unfold Sim.look;dsimp only;rw [if_neg (by rw [l1]; decide)];rw [l3] at l2 ⊢;have N1 : qe n K ({ s with ldr := l } : Sim).all w k (({ s with ldr := l } : Sim).r k) := M.nd k M.kn;obtain ⟨g1,all,g2,g3,g4,g5⟩ := qiT (s := { s with ldr := l }) M.ok N1 M.all;rw [if_neg (by rw [g1]; decide),g2];have N2 : qe n K all w k (s.r k) := (M.nd k M.kn).joins g3;obtain ⟨k1,k2⟩ := qk0 (s := { s with ldr := l,all := all }) M.ok N2 M.kept;rw [k1];refine ⟨qk1 (r := s.r k) (M.rds k M.kn) k2 ?_,?_⟩
 · show (Sim.upd s.r k (qK (s.r k)) k).ht = (s.r k).ht;rw [qw]
   rfl
 · refine ⟨M.nn,M.ok,fun j hj => ?_,fun m hm => ?_,l2,g4,fun j hj => ?_,fun j hj => ?_,fun j hj => ?_⟩
   · show qe n K all w j (Sim.upd s.r k (qK (s.r k)) j)
     by_cases hjk : j = k
     · subst hjk;rw [qw];exact N2.calm
     · rw [qr _ _ hjk];exact (M.nd j hj).joins g3
   · rcases List.mem_append.1 hm with hm | hm
     · exact (M.net m hm).joins g3
     · exact N2.ms m (List.mem_of_mem_take hm)
   · show (w.g.log j).take (Sim.upd s.r k (qK (s.r k)) j).cm.toNat <+: all
     by_cases hjk : j = k
     · subst hjk;rw [qw];exact g5
     · rw [qr _ _ hjk];exact (M.cma j hj hjk).trans g3
   · by_cases hjk : j = k
     · subst hjk
       constructor
       · show Sim.upd s.ht j (s.r j).ht j = (Sim.upd s.r j (qK (s.r j)) j).ht;rw [qw,qw]; rfl
       · show Sim.upd s.hv j (s.r j).hv j = (Sim.upd s.r j (qK (s.r j)) j).hv;rw [qw,qw]; rfl
       · show Sim.upd s.sn j (s.r j).sn j = (Sim.upd s.r j (qK (s.r j)) j).sn;rw [qw,qw]; rfl
       · show Sim.upd s.lg j (s.r j).lg.l j = (Sim.upd s.r j (qK (s.r j)) j).lg.l;rw [qw,qw]; rfl
       · show qK (Sim.upd s.r j (qK (s.r j)) j) = Sim.upd s.r j (qK (s.r j)) j;rw [qw]; rfl
     · have h := M.rest j hj hjk
       constructor
       · show Sim.upd s.ht k (s.r k).ht j = (Sim.upd s.r k (qK (s.r k)) j).ht;rw [qr _ _ hjk,qr _ _ hjk]; exact h.ht
       · show Sim.upd s.hv k (s.r k).hv j = (Sim.upd s.r k (qK (s.r k)) j).hv;rw [qr _ _ hjk,qr _ _ hjk]; exact h.hv
       · show Sim.upd s.sn k (s.r k).sn j = (Sim.upd s.r k (qK (s.r k)) j).sn;rw [qr _ _ hjk,qr _ _ hjk]; exact h.sn
       · show Sim.upd s.lg k (s.r k).lg.l j = (Sim.upd s.r k (qK (s.r k)) j).lg.l;rw [qr _ _ hjk,qr _ _ hjk]; exact h.lg
       · show qK (Sim.upd s.r k (qK (s.r k)) j) = Sim.upd s.r k (qK (s.r k)) j;rw [qr _ _ hjk]; exact h.r
   · show RdOk n w s.rds j (Sim.upd s.r k (qK (s.r k)) j)
     by_cases hjk : j = k
     · subst hjk;rw [qw];exact (M.rds j hj).calm
     · rw [qr _ _ hjk];exact M.rds j hj
end
end Go.Proofs.YtmiijlecfiddmaaGreat
set_option linter.unusedVariables false
set_option linter.unusedSimpArgs false
set_option maxRecDepth 100000
set_option maxHeartbeats 200000
namespace Go.Proofs.YtmiijlecfiddmaaGreat
section
variable {n : Nat} {K : Int} {w w' : W} {k : Nat} {s : Sim}
theorem Rest.is (h : Rest s k) : (s.r k).lg.f = 0 /\ (s.r k).kp = false /\ (s.r k).ms = [] /\ (s.r k).td = [] := by
 have hr := h.r;refine ⟨?_,?_,?_,?_⟩
 · rw [<- hr]; rfl
 · rw [<- hr]; rfl
 · rw [<- hr]; rfl
 · rw [<- hr]; rfl
theorem Rest.kept (h : Rest s k) : Kept (s.lg k) (s.sn k) (s.r k) := by
 obtain ⟨h1,h2,_,_⟩ := h.is;exact ⟨fun hk => (by rw [h2] at hk; cases hk),fun _ => ⟨h.sn.symm, .inl ⟨h1,h.lg.symm⟩⟩⟩
theorem qG.more (H : qG n K w s) {K' : Int} (hK : K <= K') (h : K' <= 1000000) : qG n K' w s :=
 ⟨H.nn,H.ok.more hK h,fun k hk => (H.nd k hk).more hK,fun m hm => (H.net m hm).more hK,H.ldr,H.all,H.cma,H.rest,H.rds⟩
theorem qG.does (H : qG n K w s) (hK : K + 1 <= 1000000) (hk : k < n) {net : List Msg} (hnet : ∀ m ∈ net,m ∈ s.net) {r' : Node} (S : Step k w w') (O' : WOk n (K + 1) w') (N' : qe n (K + 1) s.all w' k r')
 (P : Kept (s.lg k) (s.sn k) r') (R : RdOk n w' s.rds k r') : Mid n (K + 1) w' { s with r := Sim.upd s.r k r',net := net } k := by
 refine ⟨H.nn,hk,O',fun j hj => ?_,fun m hm => ((H.net m (hnet m hm)).more (by omega)).step S,fun x hx => ?_,?_,fun j hj hjk => ?_,fun j hj hjk => ?_,fun j hj => ?_,?_⟩
 · show qe n (K + 1) s.all w' j (Sim.upd s.r k r' j)
   by_cases hjk : j = k
   · rw [hjk,qw];exact N'
   · rw [qr _ _ hjk];exact ((H.nd j hj).more (by omega)).step S hjk
 · obtain ⟨Y,h1⟩ := H.ldr x hx;obtain ⟨Y',h2,_⟩ := S.ll _ _ _ h1;exact ⟨Y',h2⟩
 · obtain ⟨T,hT⟩ := H.all;exact ⟨T,hT.step S⟩
 · show (w'.g.log j).take (Sim.upd s.r k r' j).cm.toNat <+: s.all;rw [qr _ _ hjk,S.oL j hjk];exact H.cma j hj
 · have h := H.rest j hj
   constructor
   · show s.ht j = (Sim.upd s.r k r' j).ht;rw [qr _ _ hjk]; exact h.ht
   · show s.hv j = (Sim.upd s.r k r' j).hv;rw [qr _ _ hjk]; exact h.hv
   · show s.sn j = (Sim.upd s.r k r' j).sn;rw [qr _ _ hjk]; exact h.sn
   · show s.lg j = (Sim.upd s.r k r' j).lg.l;rw [qr _ _ hjk]; exact h.lg
   · show qK (Sim.upd s.r k r' j) = Sim.upd s.r k r' j;rw [qr _ _ hjk]; exact h.r
 · show RdOk n w' s.rds j (Sim.upd s.r k r' j)
   by_cases hjk : j = k
   · rw [hjk,qw];exact R
   · rw [qr _ _ hjk];exact (H.rds j hj).step S
 · show Kept (s.lg k) (s.sn k) (Sim.upd s.r k r' k);rw [qw];exact P
def Well (n : Nat) (K : Int) (q : Sim × Bool) : Prop := q.2 = true /\ ∃ w',qG n K w' q.1
theorem Mid.well (M : Mid n K w s k) : Well n K (s.look k) := ⟨M.look.1,w,M.look.2⟩
theorem qG.low (H : qG n K w s) (hk : k < n) : (s.r k).ht < K + 1 /\ ((w.g.log k).length : Int) < K + 1 := by
 have h1 := H.ok.tk k;have h2 := H.ok.lk k;rw [(H.nd k hk).tm] at h1;omega
theorem qi2 (H : qG n K w s) (hK : K + 1 <= 1000000) (hk : k < n) : Well n (K + 1) (({ s with r := Sim.upd s.r k (s.r k).tick } : Sim).look k) := by
 have N := (H.nd k hk).more (show K <= K + 1 by omega);have O := H.ok.more (show K <= K + 1 by omega) hK;obtain ⟨w',S,O',N'⟩ := N.tick O (H.low hk).1 (H.low hk).2;exact (H.does hK hk (net := s.net) (fun _ h => h) S O' N' (qiW (H.rest k hk).kept N.fu) (((H.rds k hk).step S).quiet (H.rest k hk).is.2.2.2 (qhp _ N.rd))).well
theorem qf6 (H : qG n K w s) (hK : K + 1 <= 1000000) (hk : k < n) (d : List UInt8) : Well n (K + 1) (({ s with r := Sim.upd s.r k ((s.r k).propose d).1 } : Sim).look k) := by
 have N := (H.nd k hk).more (show K <= K + 1 by omega);have O := H.ok.more (show K <= K + 1 by omega) hK;obtain ⟨w',S,O',N'⟩ := N.propose O d (H.low hk).2;exact (H.does hK hk (net := s.net) (fun _ h => h) S O' N' (qf5 (H.rest k hk).kept N.fu d) (((H.rds k hk).step S).quiet (H.rest k hk).is.2.2.2 (qeN _ d))).well
theorem qgG (H : qG n K w s) (hK : K + 1 <= 1000000) (hk : k < n) {net : List Msg} (hnet : ∀ m ∈ net,m ∈ s.net) : Well n (K + 1) (({ s with net := net } : Sim).look k) := by
 have N := (H.nd k hk).more (show K <= K + 1 by omega);have O := H.ok.more (show K <= K + 1 by omega) hK;have M := H.does hK hk hnet (Step.refl k w) O N (H.rest k hk).kept (H.rds k hk);rw [qco s.r k _ rfl] at M;exact M.well
theorem qez (H : qG n K w s) (hK : K + 1 <= 1000000) {net : List Msg} (hnet : ∀ m ∈ net,m ∈ s.net) {y : Msg} (hy : y ∈ s.net) (hk : k < n) (ho : y.o = k) :
 (s.r k).heard y = true /\ Well n (K + 1) (({ s with r := Sim.upd s.r k ((s.r k).step y),net := net } : Sim).look k) := by
 have M0 := H.net y hy;have M := M0.more (show K <= K + 1 by omega);have N := (H.nd k hk).more (show K <= K + 1 by omega);have O := H.ok.more (show K <= K + 1 by omega) hK;obtain ⟨_,_,y1,y2⟩ := qaz M;refine ⟨N.heard M ho,?_⟩;obtain ⟨w',S,O',N'⟩ := N.step_ok O M ho (H.low hk).1 (H.low hk).2 (fun _ _ => M0.t1) (fun a b => by have := M0.t2 a b; omega);refine (H.does hK hk hnet S O' N' (qiZ (H.rest k hk).kept N.fu y (fun h7 => ?_) ⟨y1,y2⟩) ((H.rds k hk).step_ok S N N' (H.rest k hk).is.2.2.2 ⟨y1,y2⟩)).well;obtain ⟨_,_,i,_,h2,h3,_⟩ := M.k7 h7;omega
theorem qhr (H : qG n K w s) (hK : K + 1 <= 1000000) (m : Sim.Move) (hm : m.k = 1 \/ m.k = 2 \/ m.k = 3) : Well n (K + 1) (s.move m) := by
 unfold Sim.move;dsimp only;rw [if_neg (by omega),if_pos hm]
 split
 · exact ⟨rfl,w,H.more (by omega) hK⟩
 · rename_i y hy;have hmem := List.mem_of_getElem? hy;have M := H.net y hmem;have hyo := M.o;have hsn := H.nn.1
   by_cases h3 : m.k = 3
   · rw [if_pos h3,if_neg (by omega),if_neg (by omega)];obtain ⟨a1,a2⟩ := qez H hK (net := s.net) (fun _ h => h) hmem (k := y.o.toNat) (by omega) (by omega);rw [a1,if_neg (by decide)];exact a2
   · rw [if_neg h3];dsimp only;rw [if_neg (by omega)]
     have he : ∀ x ∈ s.net.eraseIdx (m.x % s.net.length),x ∈ s.net := fun x hx => List.mem_of_mem_eraseIdx hx
     by_cases h2 : m.k = 2
     · rw [if_pos h2];exact qgG H hK (by omega) he
     · rw [if_neg h2];obtain ⟨a1,a2⟩ := qez H hK he hmem (k := y.o.toNat) (by omega) (by omega);rw [a1,if_neg (by decide)];exact a2
end
end Go.Proofs.YtmiijlecfiddmaaGreat
