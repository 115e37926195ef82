/- A node in memory: its block, its log, the rows of what is said, told, waited for; where all of that lies. -/
import Derived.Test.YtogbhedbgcmckaaGreatNNM01
import Derived.Test.YtogbhedbgcmckaaGreatNNM22
import Derived.Test.YtogbhedbgcmckaaGreatNNM23
import Derived.Test.YtogbhedbgcmckaaGreatNNM24
set_option linter.unusedVariables false
set_option linter.unusedSimpArgs false
set_option maxRecDepth 100000
set_option maxHeartbeats 200000
namespace Go.Proofs.YtogbhedbgcmckaaGreat
open Go.RowKit
theorem qR {ts T : TypeId} {z : Value} {sz bytes : Nat} (Ee : Elem ts T z sz bytes) (w : World) {ops : Array Oper} {o : Oper} {a : Act} {K : Act -> World -> Prop} {Q : Exit -> Act -> World -> Prop} {E : Prop} (hgd : o.guard = none) (sl x : Operand)
 (ho : o.op = .call { callee := .builtin .append,args := #[sl,x],argTypes := #[ts,ts] })
 (A : Option Addr) (n cap : Nat) (vs : List Value) (hs : a.eval sl = .slice A n cap) (hsp : Sp T sz w A n cap vs) (B : Option Addr) (m c : Nat) (us : List Value) (hx : a.eval x = .slice B m c) (hB : B = none -> m = 0) (hl : us.length = m * sz) (h1 : ∀ u ∈ us,u.oneCell' = true)
 (hcell : ∀ b,B = some b -> ∀ j u,us[j]? = some u -> w.cell? (b.add j) = some u) (hf : n + m <= 1000000)
 (h : ∀ A' cap' w',Sp T sz w' A' (n + m) cap' (vs ++ us) -> (∀ q,blkR A' q -> blkR A q \/ w.heap.size <= q) -> Grew w w' A -> K (a.put o.dst (.slice A' (n + m) cap')) w') :
 if Region.wanted o (yielded ops a.tmps) = true then Oper.wp Tryz.prog o a w K Q else E := by
 have hw : Region.wanted o (yielded ops a.tmps) = true := by simp [Region.wanted,hgd]
 rw [if_pos hw];obtain ⟨A',cap',w',hr,h1,h2,h3,h4,h5,h6,h7⟩ := qcB (w := w) Ee o.type hsp B m c hB hl h1 hcell hf;unfold Oper.wp execOp;simp only [ho,resolve,invoke,builtin,Sem.run_bind,Sem.run_pure,Result.andThen_ok,List.map_toArray,List.map_cons,List.map_nil,hs,hx,hr];exact h A' cap' w' h1 h2 ⟨h3,h4,h5,h6,h7⟩
theorem qbK {ts T : TypeId} {z : Value} {sz bytes : Nat} (Ee : Elem ts T z sz bytes) (w : World) {ops : Array Oper} {rest : List Oper} {o : Oper} {a : Act} {Q : Exit -> Act -> World -> Prop} (hgd : o.guard = none) (sl x : Operand)
 (ho : o.op = .call { callee := .builtin .append,args := #[sl,x],argTypes := #[ts,ts] })
 (A : Option Addr) (n cap : Nat) (vs : List Value) (hs : a.eval sl = .slice A n cap) (hsp : Sp T sz w A n cap vs) (B : Option Addr) (m c : Nat) (us : List Value) (hx : a.eval x = .slice B m c) (hB : B = none -> m = 0) (hl : us.length = m * sz) (h1 : ∀ u ∈ us,u.oneCell' = true)
 (hcell : ∀ b,B = some b -> ∀ j u,us[j]? = some u -> w.cell? (b.add j) = some u) (hf : n + m <= 1000000)
 (h : ∀ A' cap' w',Sp T sz w' A' (n + m) cap' (vs ++ us) -> (∀ q,blkR A' q -> blkR A q \/ w.heap.size <= q) -> Grew w w' A -> wpList Tryz.prog ops Q rest (a.put o.dst (.slice A' (n + m) cap')) w') : wpList Tryz.prog ops Q (o :: rest) a w := by
 refine wpList_plain hgd fun K hK => ?_;obtain ⟨A',cap',w',hr,h1,h2,h3,h4,h5,h6,h7⟩ := qcB (w := w) Ee o.type hsp B m c hB hl h1 hcell hf;unfold Oper.wp execOp;simp only [ho,resolve,invoke,builtin,Sem.run_bind,Sem.run_pure,Result.andThen_ok,List.map_toArray,List.map_cons,List.map_nil,hs,hx,hr];exact hK _ _ (h A' cap' w' h1 h2 ⟨h3,h4,h5,h6,h7⟩)
structure MLay where
 m : Msg
 A : Option Addr
 cA : Nat
 E : Option Addr
 cE : Nat
def qiT (x : MLay) : List Value :=
 [.int .i64 x.m.k, .int .i64 x.m.f, .int .i64 x.m.o, .int .i64 x.m.t, .int .i64 x.m.i, .int .i64 x.m.l, .int .i64 x.m.c, .int .i64 x.m.x, .bool x.m.b, .slice x.A x.m.es.length x.cA, .int .i64 x.m.s.i, .int .i64 x.m.s.t, .slice x.E x.m.s.d.length x.cE]
def mrow (xs : List MLay) : List Value := xs.flatMap qiT
def qla (y : Int × Int) : List Value := [.int .i64 y.1, .int .i64 y.2]
def rrow (l : List (Int × Int)) : List Value := l.flatMap qla
theorem qgz (a b : List MLay) : mrow (a ++ b) = mrow a ++ mrow b := List.flatMap_append
theorem qgA (a b : List (Int × Int)) : rrow (a ++ b) = rrow a ++ rrow b := List.flatMap_append
theorem qfH (x : MLay) : ∀ u ∈ mrow [x],u.oneCell' = true := by
 intro u hu;simp only [mrow,List.flatMap_cons,List.flatMap_nil,List.append_nil,qiT,List.mem_cons,List.not_mem_nil,or_false] at hu
 rcases hu with rfl | rfl | rfl | rfl | rfl | rfl | rfl | rfl | rfl | rfl | rfl | rfl | rfl <;> rfl
theorem qfI : Elem 35 43 (.agg #[.int .i64 0, .int .i64 0, .int .i64 0, .int .i64 0, .int .i64 0, .int .i64 0, .int .i64 0, .int .i64 0, .bool false, .slice none 0 0, .int .i64 0, .int .i64 0, .slice none 0 0]) 13 136 :=
 ⟨Tryz.underlying35,by kernel_rfl,rfl,by omega,by omega⟩
theorem qaE : Elem 55 2 (.int .i64 0) 1 8 :=
 ⟨Tryz.underlying55,by kernel_rfl,rfl,by omega,by omega⟩
structure Ptrs where
 E : Option Addr
 cE : Nat
 l : Nat
 R : Option Addr
 cR : Nat
 M : Option Addr
 cM : Nat
 T : Option Addr
 cT : Nat
abbrev rfC (N : Node) (q : Ptrs) : Array Value :=
 #[.int .i64 (N.id : Int), .int .i64 (N.n : Int), .int .i64 N.ht, .int .i64 N.hv, .int .i64 N.sn.i, .int .i64 N.sn.t, .slice q.E N.sn.d.length q.cE, .bool N.kp,ptrV q.l, .int .i64 N.cm, .int .i64 N.ro, .int .i64 N.ld, .int .i64 N.wk,
  .int .i64 (N.sy 0), .int .i64 (N.sy 1), .int .i64 (N.sy 2),
  .int .i64 (N.nx 0), .int .i64 (N.ma 0), .int .i64 (N.ac 0), .int .i64 (N.nx 1), .int .i64 (N.ma 1), .int .i64 (N.ac 1), .int .i64 (N.nx 2), .int .i64 (N.ma 2), .int .i64 (N.ac 2),
  .int .i64 N.cx, .slice q.R N.rd.length q.cR, .slice q.M N.ms.length q.cM, .slice q.T N.td.length q.cT]
def Pay (n : Nat) (E : Option Addr) (K : Nat -> Prop) (b : Nat) : Prop := K b /\ ¬ (0 < n /\ blkR E b)
def Parts (q : Ptrs) (K : Nat -> Prop) (b : Nat) : Prop := K b \/ blkR q.R b \/ blkR q.M b \/ blkR q.T b
structure RfAt (w : World) (p : Nat) (N : Node) (Z : Nat -> Prop) (q : Ptrs) (s : Nat) (xs : List MLay) (K : Nat -> Prop) : Prop where
 row : w.heap[p]? = some (.cells (rfC N q) 108)
 away : ¬ Z p
 kz : ∀ b,K b -> ¬ Z b /\ b ≠ p /\ b < w.heap.size
 rz : ∀ b,blkR q.R b -> ¬ Z b /\ b ≠ p /\ ¬ K b
 mz : ∀ b,blkR q.M b -> ¬ Z b /\ b ≠ p /\ ¬ K b /\ ¬ blkR q.R b
 tz : ∀ b,blkR q.T b -> ¬ Z b /\ b ≠ p /\ ¬ K b /\ ¬ blkR q.R b /\ ¬ blkR q.M b
 log : LgR w q.l N.lg s (fun b => Z b \/ b = p \/ Parts q K b)
 rds : Sp 122 2 w q.R N.rd.length q.cR (rrow N.rd)
 tds : Sp 122 2 w q.T N.td.length q.cT (rrow N.td)
 mss : Sp 43 13 w q.M N.ms.length q.cM (mrow xs)
 map : xs.map (·.m) = N.ms
 msg : ∀ x ∈ xs,qC w (Pay N.sn.d.length q.E K) x.m x.A x.cA x.E x.cE
 snp : Lies w q.E N.sn.d.length q.cE N.sn.d
 snk : 0 < N.sn.d.length -> ∀ g o,q.E = some ⟨g,o,none⟩ -> K g
theorem qe {w : World} {p : Nat} {C : Array Value} {T : TypeId} (h : w.heap[p]? = some (.cells C T)) (j : Nat) (v : Value) (hj : C[j]? = some v) : w.cell? ⟨p,j,none⟩ = some v := by
 rw [cell_of_row w p j C T (0,0) h];exact hj
theorem qf {w : World} {p : Nat} {C : Array Value} {T : TypeId} (h : w.heap[p]? = some (.cells C T)) (j : Nat) : w.frozen? ⟨p,j,none⟩ = false := frozen_of_row w p j C T h
section
variable {w w' : World} {p : Nat} {N N' : Node} {Z Z' : Nat → Prop} {q : Ptrs} {s : Nat} {xs : List MLay} {K : Nat → Prop}
theorem RfAt.parts (h : RfAt w p N Z q s xs K) {b : Nat} (hb : Parts q K b) : ¬ Z b /\ b ≠ p /\ b < w.heap.size := by
 rcases hb with hb | hb | hb | hb
 · exact h.kz b hb
 · exact ⟨(h.rz b hb).1,(h.rz b hb).2.1,h.rds.lt hb⟩
 · exact ⟨(h.mz b hb).1,(h.mz b hb).2.1,h.mss.lt hb⟩
 · exact ⟨(h.tz b hb).1,(h.tz b hb).2.1,h.tds.lt hb⟩
theorem RfAt.lt (h : RfAt w p N Z q s xs K) : p < w.heap.size := hlt h.row
theorem RfAt.c0 (h : RfAt w p N Z q s xs K) : w.cell? ⟨p,0,none⟩ = some (.int .i64 (N.id : Int)) := qe h.row 0 _ rfl
theorem RfAt.c1 (h : RfAt w p N Z q s xs K) : w.cell? ⟨p,1,none⟩ = some (.int .i64 (N.n : Int)) := qe h.row 1 _ rfl
theorem RfAt.c2 (h : RfAt w p N Z q s xs K) : w.cell? ⟨p,2,none⟩ = some (.int .i64 N.ht) := qe h.row 2 _ rfl
theorem RfAt.c3 (h : RfAt w p N Z q s xs K) : w.cell? ⟨p,3,none⟩ = some (.int .i64 N.hv) := qe h.row 3 _ rfl
theorem RfAt.c4 (h : RfAt w p N Z q s xs K) : w.cell? ⟨p,4,none⟩ = some (.int .i64 N.sn.i) := qe h.row 4 _ rfl
theorem RfAt.c5 (h : RfAt w p N Z q s xs K) : w.cell? ⟨p,5,none⟩ = some (.int .i64 N.sn.t) := qe h.row 5 _ rfl
theorem RfAt.c6 (h : RfAt w p N Z q s xs K) : w.cell? ⟨p,6,none⟩ = some (.slice q.E N.sn.d.length q.cE) := qe h.row 6 _ rfl
theorem RfAt.c7 (h : RfAt w p N Z q s xs K) : w.cell? ⟨p,7,none⟩ = some (.bool N.kp) := qe h.row 7 _ rfl
theorem RfAt.c8 (h : RfAt w p N Z q s xs K) : w.cell? ⟨p,8,none⟩ = some (ptrV q.l) := qe h.row 8 _ rfl
theorem RfAt.c9 (h : RfAt w p N Z q s xs K) : w.cell? ⟨p,9,none⟩ = some (.int .i64 N.cm) := qe h.row 9 _ rfl
theorem RfAt.c10 (h : RfAt w p N Z q s xs K) : w.cell? ⟨p,10,none⟩ = some (.int .i64 N.ro) := qe h.row 10 _ rfl
theorem RfAt.c11 (h : RfAt w p N Z q s xs K) : w.cell? ⟨p,11,none⟩ = some (.int .i64 N.ld) := qe h.row 11 _ rfl
theorem RfAt.c12 (h : RfAt w p N Z q s xs K) : w.cell? ⟨p,12,none⟩ = some (.int .i64 N.wk) := qe h.row 12 _ rfl
theorem RfAt.c13 (h : RfAt w p N Z q s xs K) : w.cell? ⟨p,13,none⟩ = some (.int .i64 (N.sy 0)) := qe h.row 13 _ rfl
theorem RfAt.c14 (h : RfAt w p N Z q s xs K) : w.cell? ⟨p,14,none⟩ = some (.int .i64 (N.sy 1)) := qe h.row 14 _ rfl
theorem RfAt.c15 (h : RfAt w p N Z q s xs K) : w.cell? ⟨p,15,none⟩ = some (.int .i64 (N.sy 2)) := qe h.row 15 _ rfl
theorem RfAt.c16 (h : RfAt w p N Z q s xs K) : w.cell? ⟨p,16,none⟩ = some (.int .i64 (N.nx 0)) := qe h.row 16 _ rfl
theorem RfAt.c17 (h : RfAt w p N Z q s xs K) : w.cell? ⟨p,17,none⟩ = some (.int .i64 (N.ma 0)) := qe h.row 17 _ rfl
theorem RfAt.c18 (h : RfAt w p N Z q s xs K) : w.cell? ⟨p,18,none⟩ = some (.int .i64 (N.ac 0)) := qe h.row 18 _ rfl
theorem RfAt.c19 (h : RfAt w p N Z q s xs K) : w.cell? ⟨p,19,none⟩ = some (.int .i64 (N.nx 1)) := qe h.row 19 _ rfl
theorem RfAt.c20 (h : RfAt w p N Z q s xs K) : w.cell? ⟨p,20,none⟩ = some (.int .i64 (N.ma 1)) := qe h.row 20 _ rfl
theorem RfAt.c21 (h : RfAt w p N Z q s xs K) : w.cell? ⟨p,21,none⟩ = some (.int .i64 (N.ac 1)) := qe h.row 21 _ rfl
theorem RfAt.c22 (h : RfAt w p N Z q s xs K) : w.cell? ⟨p,22,none⟩ = some (.int .i64 (N.nx 2)) := qe h.row 22 _ rfl
theorem RfAt.c23 (h : RfAt w p N Z q s xs K) : w.cell? ⟨p,23,none⟩ = some (.int .i64 (N.ma 2)) := qe h.row 23 _ rfl
theorem RfAt.c24 (h : RfAt w p N Z q s xs K) : w.cell? ⟨p,24,none⟩ = some (.int .i64 (N.ac 2)) := qe h.row 24 _ rfl
theorem RfAt.c25 (h : RfAt w p N Z q s xs K) : w.cell? ⟨p,25,none⟩ = some (.int .i64 N.cx) := qe h.row 25 _ rfl
theorem RfAt.c27 (h : RfAt w p N Z q s xs K) : w.cell? ⟨p,27,none⟩ = some (.slice q.M N.ms.length q.cM) := qe h.row 27 _ rfl
theorem RfAt.c28 (h : RfAt w p N Z q s xs K) : w.cell? ⟨p,28,none⟩ = some (.slice q.T N.td.length q.cT) := qe h.row 28 _ rfl
theorem RfAt.fz (h : RfAt w p N Z q s xs K) (j : Nat) : w.frozen? ⟨p,j,none⟩ = false := qf h.row j
theorem RfAt.low (h : RfAt w p N Z q s xs K) (hZ : ∀ b,Z b -> b < w.heap.size) : ∀ b,Z b \/ b = p \/ Parts q K b -> b < w.heap.size := fun b hb => by
 rcases hb with hb | rfl | hb
 · exact hZ b hb
 · exact h.lt
 · exact (h.parts hb).2.2
theorem RfAt.keep (h : RfAt w p N Z q s xs K) (hs : w.heap.size <= w'.heap.size) (hk : ∀ b,b < w.heap.size -> ¬ Z b -> w'.heap[b]? = w.heap[b]?) : RfAt w' p N Z q s xs K where
 row := (hk p h.lt h.away).trans h.row
 away := h.away
 kz b hb := ⟨(h.kz b hb).1,(h.kz b hb).2.1,Nat.lt_of_lt_of_le (h.kz b hb).2.2 hs⟩
 rz := h.rz
 mz := h.mz
 tz := h.tz
 log := h.log.keep hs fun b hb hz => hk b hb fun e => hz (.inl e)
 rds := h.rds.keep fun b hb => hk b (h.rds.lt hb) (h.rz b hb).1
 tds := h.tds.keep fun b hb => hk b (h.tds.lt hb) (h.tz b hb).1
 mss := h.mss.keep fun b hb => hk b (h.mss.lt hb) (h.mz b hb).1
 map := h.map
 msg x hx := (h.msg x hx).keep hs fun b hb hkb => hk b hb (h.kz b hkb.1).1
 snp := h.snp.keep hs fun h0 g off e hg => hk g hg (h.kz g (h.snk h0 g off e)).1
 snk := h.snk
theorem RfAt.old (h : RfAt w p N Z q s xs K) {b : Nat} (hb : w.heap.size <= b) : ¬ (0 < N.sn.d.length /\ blkR q.E b) := by
 rintro ⟨h0,o,e⟩;have := (h.kz b (h.snk h0 b o e)).2.2;omega
theorem RfAt.below (h : RfAt w p N Z q s xs K) (hb : Below w.heap.size w w') : RfAt w' p N Z q s xs K := h.keep hb.size fun b hb' _ => hb.block b hb'
theorem RfAt.grow (h : RfAt w p N Z q s xs K) (hZ : ∀ b,Z b -> b < w.heap.size) (hb : Below w.heap.size w w') : RfAt w' p N Z q s xs (fun b => K b \/ (w.heap.size <= b /\ b < w'.heap.size)) := by
 have h' := h.below hb;have hp := h.lt
 refine { h' with
  kz := fun b hb => ?_
  rz := fun b hb => ⟨(h.rz b hb).1,(h.rz b hb).2.1,fun e => ?_⟩
  mz := fun b hb => ⟨(h.mz b hb).1,(h.mz b hb).2.1,fun e => ?_,(h.mz b hb).2.2.2⟩
  tz := fun b hb => ⟨(h.tz b hb).1,(h.tz b hb).2.1,fun e => ?_,(h.tz b hb).2.2.2⟩
  log := (h.log.grow.below hb).mono fun b hb => ?_
  msg := fun x hx => (h'.msg x hx).mono fun b hb => ⟨.inl hb.1,hb.2⟩
  snk := fun h0 g o e => .inl (h.snk h0 g o e) }
 · rcases hb with hb | hb
   · exact h'.kz b hb
   · exact ⟨fun e => by have := hZ b e; omega,by omega,hb.2⟩
 · rcases e with e | e
   · exact (h.rz b hb).2.2 e
   · have := h.rds.lt hb; omega
 · rcases e with e | e
   · exact (h.mz b hb).2.2.1 e
   · have := h.mss.lt hb; omega
 · rcases e with e | e
   · exact (h.tz b hb).2.2.1 e
   · have := h.tds.lt hb; omega
 · rcases hb with hb | hb | hb | hb
   · exact .inl (.inl hb)
   · exact .inl (.inr (.inl hb))
   · rcases hb with hb | hb
     · exact .inl (.inr (.inr (.inl hb)))
     · exact .inr hb.1
   · exact .inl (.inr (.inr (.inr hb)))
theorem RfAt.more (h : RfAt w p N Z q s xs K) {Y : Nat -> Prop} (hY : ∀ b,Y b -> w.heap.size <= b) (hb : Below w.heap.size w w') : RfAt w' p N (fun b => Z b \/ Y b) q s xs K := by
 have h' := h.below hb;have hp := h.lt
 refine { h' with
  away := fun e => e.elim h.away fun e => by have := hY p e; omega
  kz := fun b hb => ⟨fun e => e.elim (h'.kz b hb).1 fun e => by have := hY b e; have := (h.kz b hb).2.2; omega,(h'.kz b hb).2⟩
  rz := fun b hb => ⟨fun e => e.elim (h.rz b hb).1 fun e => by have := hY b e; have := h.rds.lt hb; omega,(h.rz b hb).2⟩
  mz := fun b hb => ⟨fun e => e.elim (h.mz b hb).1 fun e => by have := hY b e; have := h.mss.lt hb; omega,(h.mz b hb).2⟩
  tz := fun b hb => ⟨fun e => e.elim (h.tz b hb).1 fun e => by have := hY b e; have := h.tds.lt hb; omega,(h.tz b hb).2⟩
  log := (h.log.grow.below hb).mono fun b hb => ?_ }
 rcases hb with (hb | hb) | hb | hb
 · exact .inl (.inl hb)
 · exact .inr (hY b hb)
 · exact .inl (.inr (.inl hb))
 · exact .inl (.inr (.inr hb))
theorem RfAt.less (h : RfAt w p N Z q s xs K) (hz : ∀ b,Z' b -> Z b) : RfAt w p N Z' q s xs K :=
 { h with
  away := fun e => h.away (hz p e)
  kz := fun b hb => ⟨fun e => (h.kz b hb).1 (hz b e),(h.kz b hb).2⟩
  rz := fun b hb => ⟨fun e => (h.rz b hb).1 (hz b e),(h.rz b hb).2⟩
  mz := fun b hb => ⟨fun e => (h.mz b hb).1 (hz b e),(h.mz b hb).2⟩
  tz := fun b hb => ⟨fun e => (h.tz b hb).1 (hz b e),(h.tz b hb).2⟩
  log := h.log.mono fun b hb => hb.imp_left (hz b) }
theorem RfAt.turn (h : RfAt w p N Z q s xs K) (hs : w.heap.size <= w'.heap.size) (hk : ∀ b,b < w.heap.size -> b ≠ p -> w'.heap[b]? = w.heap[b]?) (hrow : w'.heap[p]? = some (.cells (rfC N' q) 108))
 (e1 : N'.lg = N.lg) (e2 : N'.rd = N.rd) (e3 : N'.ms = N.ms) (e4 : N'.td = N.td) (e5 : N'.sn = N.sn) : RfAt w' p N' Z q s xs K where
 row := hrow
 away := h.away
 kz b hb := ⟨(h.kz b hb).1,(h.kz b hb).2.1,Nat.lt_of_lt_of_le (h.kz b hb).2.2 hs⟩
 rz := h.rz
 mz := h.mz
 tz := h.tz
 log := by rw [e1]; exact h.log.keep hs fun b hb hz => hk b hb fun e => hz (.inr (.inl e))
 rds := by rw [e2]; exact h.rds.keep fun b hb => hk b (h.rds.lt hb) (h.rz b hb).2.1
 tds := by rw [e4]; exact h.tds.keep fun b hb => hk b (h.tds.lt hb) (h.tz b hb).2.1
 mss := by rw [e3]; exact h.mss.keep fun b hb => hk b (h.mss.lt hb) (h.mz b hb).2.1
 map := by rw [e3]; exact h.map
 msg x hx := by rw [e5]; exact (h.msg x hx).keep hs fun b hb hkb => hk b hb (h.kz b hkb.1).2.1
 snp := by rw [e5]; exact h.snp.keep hs fun h0 g off e hg => hk g hg (h.kz g (h.snk h0 g off e)).2.1
 snk := by rw [e5]; exact h.snk
theorem RfAt.logged (h : RfAt w p N Z q s xs K) {lg : RL} {s' : Nat} (hl : LgR w' q.l lg s' (fun b => Z b \/ b = p \/ Parts q K b)) (hk : qa (fun b => Z b \/ b = p \/ Parts q K b) w w') : RfAt w' p { N with lg := lg } Z q s' xs K where
 row := (hk.block p h.lt (.inr (.inl rfl))).trans h.row
 away := h.away
 kz b hb := ⟨(h.kz b hb).1,(h.kz b hb).2.1,Nat.lt_of_lt_of_le (h.kz b hb).2.2 hk.size⟩
 rz := h.rz
 mz := h.mz
 tz := h.tz
 log := hl
 rds := h.rds.keep fun b hb => hk.block b (h.rds.lt hb) (.inr (.inr (.inr (.inl hb))))
 tds := h.tds.keep fun b hb => hk.block b (h.tds.lt hb) (.inr (.inr (.inr (.inr (.inr hb)))))
 mss := h.mss.keep fun b hb => hk.block b (h.mss.lt hb) (.inr (.inr (.inr (.inr (.inl hb)))))
 map := h.map
 msg x hx := (h.msg x hx).keep hk.size fun b hb hkb => hk.block b hb (.inr (.inr (.inl hkb.1)))
 snp := h.snp.keep hk.size fun h0 g off e hg => hk.block g hg (.inr (.inr (.inl (h.snk h0 g off e))))
 snk := h.snk
theorem RfAt.say (h : RfAt w p N Z q s xs K) (hZ : ∀ b,Z b -> b < w.heap.size) {X : World} (hX : Below w.heap.size w X) {A' : Option Addr} {c' : Nat} {x : MLay} (hsp : Sp 43 13 w' A' (N.ms.length + 1) c' (mrow xs ++ mrow [x])) (hA : ∀ b,blkR A' b -> blkR q.M b \/ X.heap.size <= b) (hg : Grew X w' q.M) (hx : qC w (Pay N.sn.d.length q.E K) x.m x.A x.cA x.E x.cE) :
 RfAt (w'.setCell ⟨p,27,none⟩ (.slice A' (N.ms.length + 1) c')) p { N with ms := N.ms ++ [x.m] } Z { q with M := A',cM := c' } s (xs ++ [x]) K /\ qa Z w (w'.setCell ⟨p,27,none⟩ (.slice A' (N.ms.length + 1) c')) := by
 have hs1 := hX.size;have hs2 := hg.size;have hp := h.lt
 have hnm : ¬ blkR q.M p := fun e => (h.mz p e).2.1 rfl
 have hrow : w'.heap[p]? = some (.cells (rfC N q) 108) := (hg.block p (by omega) hnm).trans ((hX.block p hp).trans h.row);have hset := setCell_at w' ⟨p,27,none⟩ (.slice A' (N.ms.length + 1) c') _ _ _ rfl hrow;have hoff : ∀ b,b ≠ p -> (w'.setCell ⟨p,27,none⟩ (.slice A' (N.ms.length + 1) c')).heap[b]? = w'.heap[b]? := fun b hb => Below.heap_setCell _ _ _ _ (by exact hb);have hkk : ∀ b,b < w.heap.size -> b ≠ p -> ¬ blkR q.M b -> (w'.setCell ⟨p,27,none⟩ (.slice A' (N.ms.length + 1) c')).heap[b]? = w.heap[b]? := fun b h1 h2 h3 => (hoff b h2).trans ((hg.block b (by omega) h3).trans (hX.block b h1))
 have hsz : w.heap.size <= (w'.setCell ⟨p,27,none⟩ (.slice A' (N.ms.length + 1) c')).heap.size := by simp; omega
 have hnew : ∀ b,blkR A' b -> blkR q.M b \/ w.heap.size <= b := fun b hb => (hA b hb).imp_right fun e => by omega
 have hA' : ∀ b,blkR A' b -> ¬ Z b /\ b ≠ p /\ ¬ K b /\ ¬ blkR q.R b /\ ¬ blkR q.T b := fun b hb => by
  rcases hnew b hb with hb | hb
  · exact ⟨(h.mz b hb).1,(h.mz b hb).2.1,(h.mz b hb).2.2.1,(h.mz b hb).2.2.2,fun e => (h.tz b e).2.2.2.2 hb⟩
  · exact ⟨fun e => by have := hZ b e; omega,by omega,fun e => by have := (h.kz b e).2.2; omega,fun e => by have := h.rds.lt e; omega,fun e => by have := h.tds.lt e; omega⟩
 constructor
 · exact {
    row := by
     have e : N.ms.length + 1 = (N.ms ++ [x.m]).length := by simp
     rw [hset,e]
     rfl
    away := h.away
    kz := fun b hb => ⟨(h.kz b hb).1,(h.kz b hb).2.1,Nat.lt_of_lt_of_le (h.kz b hb).2.2 hsz⟩
    rz := h.rz
    mz := fun b hb => ⟨(hA' b hb).1,(hA' b hb).2.1,(hA' b hb).2.2.1,(hA' b hb).2.2.2.1⟩
    tz := fun b hb => ⟨(h.tz b hb).1,(h.tz b hb).2.1,(h.tz b hb).2.2.1,(h.tz b hb).2.2.2.1,fun e => (hA' b e).2.2.2.2 hb⟩
    log := by
     refine (h.log.grow.keep (w' := w'.setCell ⟨p,27,none⟩ (.slice A' (N.ms.length + 1) c')) hsz fun b hb hz => hkk b hb (fun e => hz (.inl (.inr (.inl e)))) fun e => hz (.inl (.inr (.inr (.inr (.inr (.inl e))))))).mono fun b hb => ?_;rcases hb with hb | hb | hb | hb | hb | hb
     · exact .inl (.inl hb)
     · exact .inl (.inr (.inl hb))
     · exact .inl (.inr (.inr (.inl hb)))
     · exact .inl (.inr (.inr (.inr (.inl hb))))
     · rcases hnew b hb with hb | hb
       · exact .inl (.inr (.inr (.inr (.inr (.inl hb)))))
       · exact .inr hb
     · exact .inl (.inr (.inr (.inr (.inr (.inr hb)))))
    rds := h.rds.keep fun b hb => hkk b (h.rds.lt hb) (h.rz b hb).2.1 fun e => (h.mz b e).2.2.2 hb
    tds := h.tds.keep fun b hb => hkk b (h.tds.lt hb) (h.tz b hb).2.1 (h.tz b hb).2.2.2.2
    mss := by
     rw [show ({ N with ms := N.ms ++ [x.m] } : Node).ms.length = N.ms.length + 1 by simp,qgz]
     exact hsp.keep fun b hb => hoff b (hA' b hb).2.1
    map := by rw [List.map_append,h.map]; rfl
    msg := fun y hy => by
     have hall : ∀ y : MLay,qC w (Pay N.sn.d.length q.E K) y.m y.A y.cA y.E y.cE -> qC (w'.setCell ⟨p,27,none⟩ (.slice A' (N.ms.length + 1) c')) (Pay N.sn.d.length q.E K) y.m y.A y.cA y.E y.cE := fun y hy => hy.keep hsz fun b hb hkb => hkk b hb (h.kz b hkb.1).2.1 fun e => (h.mz b e).2.2.1 hkb.1;rcases List.mem_append.1 hy with hy | hy
     · exact hall y (h.msg y hy)
     · rw [List.mem_singleton.1 hy];exact hall x hx
    snp := h.snp.keep hsz fun h0 g off e hg' => hkk g hg' (h.kz g (h.snk h0 g off e)).2.1 fun e' => (h.mz g e').2.2.1 (h.snk h0 g off e)
    snk := h.snk }
 · have k1 := qb (Z := Z) hX nlq;have k2 := hg.keeps (Z := Z) fun b hb => (h.mz b hb).1;exact (k1.trans k2).trans (qg _ ⟨p,27,none⟩ _ h.away)
end
end Go.Proofs.YtogbhedbgcmckaaGreat
set_option linter.unusedVariables false
set_option linter.unusedSimpArgs false
set_option maxRecDepth 100000
set_option maxHeartbeats 1600000
namespace Go.Proofs.YtogbhedbgcmckaaGreat
open Go.RowKit
variable {w : World} {p : Nat} {N : Node} {Z : Nat -> Prop} {q : Ptrs} {s : Nat} {xs : List MLay} {K : Nat -> Prop}
theorem qac {W : World} {g : Nat} {C : List Value} {T : TypeId} (h : W.heap[g]? = some (.cells C.toArray T)) : ∀ j u,C[j]? = some u -> W.cell? ((⟨g,0,none⟩ : Addr).add j) = some u := fun j u hu => by
 rw [Addr.add_lit,cell_of_row W g _ _ _ _ h]
 simpa using hu
def Said (w w' : World) (p : Nat) (N : Node) (Z : Nat -> Prop) (q : Ptrs) (s : Nat) (xs : List MLay) (K : Nat -> Prop) (x : MLay) : Prop :=
 ∃ A' c',RfAt w' p { N with ms := N.ms ++ [x.m] } Z { q with M := A',cM := c' } s (xs ++ [x]) K /\ qa Z w w'
theorem qaU (h : RfAt w p N Z q s xs K) (hZ : ∀ b,Z b -> b < w.heap.size) (hm : N.ms.length < 999999) (tt : Int) (x : MLay) (hx : qC w (Pay N.sn.d.length q.E K) x.m x.A x.cA x.E x.cE) :
 Calls Tryz.prog 94 #[ptrV p, .int .i64 tt,msgV x.m x.A x.cA x.E x.cE] w fun e w' => e = .returned (.tuple #[]) ∧
  Said w w' p N Z q s xs K ⟨{ x.m with f := N.id,o := tt,t := if x.m.t = 0 then N.ht else x.m.t },x.A,x.cA,x.E,x.cE⟩ := by
 have c0 := h.c0;have c2 := h.c2;have c27 := h.c27;have hp := h.lt;obtain ⟨m,A,cA,E,cE⟩ := x;dsimp only at *;obtain ⟨mm,hmm⟩ : ∃ mm : Msg,mm = { m with f := (N.id : Int),o := tt,t := if m.t = 0 then N.ht else m.t } := ⟨_,rfl⟩;rw [<- hmm];have hx2 : qC w (Pay N.sn.d.length q.E K) mm A cA E cE := hx.of (by rw [hmm]) (by rw [hmm])
 have hnm : ¬ blkR q.M p := fun e => (h.mz p e).2.1 rfl
 have HS : ∀ X,Below w.heap.size w X -> Sp 43 13 X q.M N.ms.length q.cM (mrow xs) := fun X hX => h.mss.keep fun b hb => hX.block b (h.mss.lt hb);have HR : ∀ X,Below w.heap.size w X -> X.heap[p]? = some (.cells (rfC N q) 108) := fun X hX => (hX.block p hp).trans h.row;have H := Lib.hid h;have HX := Lib.hid hx2
 have HM : mrow [⟨mm,A,cA,E,cE⟩] = [.int .i64 m.k, .int .i64 (N.id : Int), .int .i64 tt, .int .i64 (if m.t = 0 then N.ht else m.t), .int .i64 m.i, .int .i64 m.l, .int .i64 m.c, .int .i64 m.x, .bool m.b, .slice A m.es.length cA, .int .i64 m.s.i, .int .i64 m.s.t, .slice E m.s.d.length cE] := by rw [hmm]; rfl
 clear h hx hx2 hmm
 by_cases ht : m.t = 0
 · rw [if_pos ht] at HM
   have q1 : (m.t == 0) = true := by rw [ht]; rfl
   generalize hvs : mrow [⟨mm,A,cA,E,cE⟩] = vs at *
   have h1c : ∀ u ∈ vs,u.oneCell' = true := by rw [<- hvs]; exact qfH _
   have HV := Lib.hid hvs;clear hvs
   go_enter Tryz.func94,Tryz.ntmps94
   go_upto_region 4 with fail
   go_region_law (refine qR qfI _ (by rfl) _ _ (by rfl) q.M N.ms.length q.cM (mrow xs) (by rfl) (HS _ bbr) (some ⟨w.heap.size + 1,0,none⟩) 1 1 vs (by rfl) (fun e => by cases e) (by rw [HM]; rfl) h1c (fun b e => by cases e; rw [HM]; exact qac (heap_alloc2_new _ _ _)) (by omega) ?_
                  intro A' c' w4 hsp hA hgr;have hr4 := (hgr.block p (by simp; omega) hnm).trans (HR _ bbr);have e27 : w4.cell? ⟨p,27,none⟩ = some (.slice q.M N.ms.length q.cM) := qe hr4 27 _ rfl
                  have f27 := qf hr4 27)
   all_goals
    rw [<- HV.out] at hsp;obtain ⟨k1,k2⟩ := H.out.say hZ bbr hsp hA hgr HX.out;have K1 := Lib.hid (show Said _ _ _ _ _ _ _ _ _ _ from ⟨_,_,k1,k2⟩);clear k1 k2 hsp hA hgr hr4 e27 f27 HS HR;go_wp2;refine bodyPost_end (results_none rfl _ _ _) rfl ?_;exact ⟨rfl,K1.out⟩
 · rw [if_neg ht] at HM;have q1 : (m.t == 0) = false := beq_eq_false_iff_ne.2 ht;have q2 : (m.t = 0) = False := eq_false ht;generalize hvs : mrow [⟨mm,A,cA,E,cE⟩] = vs at *
   have h1c : ∀ u ∈ vs,u.oneCell' = true := by rw [<- hvs]; exact qfH _
   have HV := Lib.hid hvs;clear hvs
   go_enter Tryz.func94,Tryz.ntmps94
   go_upto_region 4 with fail
   go_region_law (refine qR qfI _ (by rfl) _ _ (by rfl) q.M N.ms.length q.cM (mrow xs) (by rfl) (HS _ bbr) (some ⟨w.heap.size + 1,0,none⟩) 1 1 vs (by rfl) (fun e => by cases e) (by rw [HM]; rfl) h1c (fun b e => by cases e; rw [HM]; exact qac (heap_alloc2_new _ _ _)) (by omega) ?_
                  intro A' c' w4 hsp hA hgr;have hr4 := (hgr.block p (by simp; omega) hnm).trans (HR _ bbr);have e27 : w4.cell? ⟨p,27,none⟩ = some (.slice q.M N.ms.length q.cM) := qe hr4 27 _ rfl
                  have f27 := qf hr4 27)
   all_goals
    rw [<- HV.out] at hsp;obtain ⟨k1,k2⟩ := H.out.say hZ bbr hsp hA hgr HX.out;have K1 := Lib.hid (show Said _ _ _ _ _ _ _ _ _ _ from ⟨_,_,k1,k2⟩);clear k1 k2 hsp hA hgr hr4 e27 f27 HS HR;go_wp2;refine bodyPost_end (results_none rfl _ _ _) rfl ?_;exact ⟨rfl,K1.out⟩
theorem qbj (h : RfAt w p N Z q s xs K) (hm : N.lg.l.length <= 1000000) :
 Calls Tryz.prog 50 #[ptrV p] w fun e w' => e = .returned (.int .i64 N.lg.lastI) /\ Below w.heap.size w w' := by
 have c8 := h.c8;obtain ⟨A,c,hr⟩ := h.log.rd;have hL := qaZ hr hm;clear h hr
 go_enter Tryz.func50,Tryz.ntmps50
 go_wp2_with fail
 refine hL.mono ?_;rintro e w1 ⟨rfl,hb1⟩;go_wp2;go_ret;exact ⟨rfl,hb1⟩
def Node.ownB (N : Node) (x : Int) : Bool := decide (N.lg.at_ x = some N.ht)
theorem qj9 (h : RfAt w p N Z q s xs K) (hm : N.lg.l.length <= 1000000) (hg : qk N.lg) (x : Int) :
 Calls Tryz.prog 53 #[ptrV p, .int .i64 x] w fun e w' => e = .returned (.bool (N.ownB x)) /\ Below w.heap.size w w' := by
 have c8 := h.c8;have c2 : ∀ X,Below w.heap.size w X -> X.cell? ⟨p,2,none⟩ = some (.int .i64 N.ht) := fun X hX => (h.below hX).c2;have hp := h.lt;obtain ⟨A,c,hr⟩ := h.log.rd;have hL := qbY hr hm hg x;unfold Node.ownB;clear h hr hg
 cases ha : N.lg.at_ x with
 | none =>
   rw [ha] at hL;have e1 : decide ((none : Option Int) = some N.ht) = false := rfl;rw [e1];clear ha
   go_enter Tryz.func53,Tryz.ntmps53
   go_wp2_with fail
   refine hL.mono ?_;rintro e w1 ⟨rfl,hb1⟩;have d2 := c2 w1 hb1;clear c2;go_wp2;go_ret;exact ⟨rfl,hb1⟩
 | some t =>
   rw [ha] at hL
   have e1 : decide (some t = some N.ht) = (t == N.ht) := by
    by_cases h : t = N.ht
    · subst h; simp
    · rw [beq_eq_false_iff_ne.2 h]; exact decide_eq_false fun e => h (by injection e)
   rw [e1];clear ha e1
   go_enter Tryz.func53,Tryz.ntmps53
   go_wp2_with fail
   refine hL.mono ?_;rintro e w1 ⟨rfl,hb1⟩;have d2 := c2 w1 hb1;clear c2;go_wp2;go_ret;exact ⟨rfl,hb1⟩
end Go.Proofs.YtogbhedbgcmckaaGreat
