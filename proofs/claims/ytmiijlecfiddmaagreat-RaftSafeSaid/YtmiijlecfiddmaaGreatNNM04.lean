/- A node of a cluster, step by step, as a value (the document's words); a cluster of them. Plain mathematics. -/
import Derived.Test.YtmiijlecfiddmaaGreatNNM03
import Derived.Test.YtmiijlecfiddmaaGreatNNM01
import Derived.Test.YtmiijlecfiddmaaGreatNNM02
import Derived.Laws.Tables
import Derived.Deep.Cut
import Derived.Deep.DeepCutAuto
set_option linter.unusedVariables false
set_option linter.unusedSimpArgs false
set_option maxRecDepth 100000
set_option maxHeartbeats 200000
namespace Go.Proofs.YtmiijlecfiddmaaGreat
structure Node where
 id : Nat
 n : Nat
 ht : Int
 hv : Int
 sn : Ent
 kp : Bool
 lg : RL
 cm : Int
 ro : Int
 ld : Int
 wk : Int
 sy : Nat -> Int
 nx : Nat -> Int
 ma : Nat -> Int
 ac : Nat -> Int
 cx : Int
 rd : List (Int × Int)
 ms : List Msg
 td : List (Int × Int)
namespace Node
def zeroF : Nat -> Int := fun _ => 0
def noEnt : Ent := ⟨0,0,[]⟩
def put (f : Nat -> Int) (a : Nat) (v : Int) : Nat -> Int := fun x => if x = a then v else f x
def won (yes n : Nat) : Bool := decide (1 <= n /\ yes <= n /\ n < 2 * yes)
def lost (no n : Nat) : Bool := decide (1 <= n /\ no <= n /\ n <= 2 * no)
def others (r : Node) : List Nat := (List.range r.n).filter fun k => decide (k ≠ r.id)
def fresh (id n : Nat) (ht hv : Int) (s : Ent) (l : List Ent) : Node :=
 ⟨id,n,ht,hv,s,false,⟨s.i,s.t,l,0⟩,s.i,0,-1,0,zeroF,zeroF,zeroF,zeroF,0,[],[],[]⟩
def can (id n : Int) (ht hv : Int) (s : Ent) (l : List Ent) : Bool :=
 decide (1 <= n /\ n <= 3 /\ 0 <= id /\ id < n) && (qcO ht hv && (qak s.i s.t s.d.length && (runB s.i s.t l && (decide (s.t <= ht) && decide ((⟨s.i,s.t,l,0⟩ : RL).lastT <= ht)))))
def say (r : Node) (m : Msg) : Node := { r with ms := r.ms ++ [{ m with f := r.id }] }
def fall (r : Node) (t : Int) (lead : Int) : Node :=
 { r with ht := if r.ht < t then t else r.ht,hv := if r.ht < t then -1 else r.hv,ro := 0,ld := lead,wk := 0,rd := [],sy := zeroF,nx := zeroF,ma := zeroF,ac := zeroF,cx := 0 }
def msg (k : Int) (tz : Nat) (t : Int) : Msg := ⟨k,0,tz,t,0,0,0,0,false,[],noEnt⟩
def send (r : Node) (tz : Nat) : Node :=
 if r.nx tz <= r.lg.i then r.say { msg 7 tz r.ht with s := r.sn }
 else r.say { msg 5 tz r.ht with i := r.nx tz - 1,l := (r.lg.at_ (r.nx tz - 1)).getD 0,c := r.cm,x := r.cx,es := r.lg.fromL (r.nx tz) 4 }
def sendAll (r : Node) : Node := r.others.foldl send r
def reached (l : List Int) : Int := (l.filter fun v => decide (l.length < 2 * (l.filter fun u => decide (v <= u)).length)).foldl max 0
def settle (r : Node) : Node × Bool :=
 let k := reached (r.lg.lastI :: r.others.map r.ma)
 if k <= r.cm \/ r.lg.at_ k ≠ some r.ht then (r,false) else ({ r with cm := k },true)
def grown (r : Node) (d : List UInt8) : RL := (r.lg.add r.ht d).getD r.lg
def rise (r : Node) : Node :=
 let r : Node := { r with ro := 3,ld := r.id,wk := 0,cx := 0,rd := [],ma := zeroF,ac := zeroF,nx := fun k => if k < r.n /\ k ≠ r.id then r.lg.lastI + 1 else 0 }
 ({ r with lg := r.grown [] } : Node).settle.1.sendAll
def ask (r : Node) (k : Int) (t : Int) : Node := r.others.foldl (fun r tz => r.say { msg k tz t with i := r.lg.lastI,l := r.lg.lastT }) r
def count (r : Node) (role : Int) : Node := { r with ro := role,ld := -1,wk := 0,sy := put zeroF r.id 1 }
def run (r : Node) : Node :=
 let r := ({ r with ht := r.ht + 1,hv := r.id } : Node).count 2
 if r.n = 1 then r.rise else r.ask 3 r.ht
def tick (r : Node) : Node :=
 let r := { r with wk := r.wk + 1 }
 if r.ro = 3 /\ 2 <= r.wk then ({ r with wk := 0 } : Node).sendAll
 else if r.ro = 3 \/ r.wk < 6 + 3 * (r.id : Int) \/ 1099511627776 <= r.ht \/ 1099511627776 <= r.lg.lastI then r
 else
  let r := r.count 1
  if r.n = 1 then r.run else r.ask 1 (r.ht + 1)
def heard (r : Node) (m : Msg) : Bool := rightM m && (decide (m.f < r.n) && decide (m.o = r.id))
def poll (r : Node) (m : Msg) : Node :=
 if r.ht < m.t /\ r.lg.newer m.i m.l = true /\ (r.ld = -1 \/ r.ro ≠ 3 /\ 6 <= r.wk) then r.say { msg 2 m.f.toNat m.t with b := true } else r.say (msg 2 m.f.toNat r.ht)
def vote (r : Node) (m : Msg) : Node :=
 if (r.hv = -1 \/ r.hv = m.f) /\ r.lg.newer m.i m.l = true then ({ r with hv := m.f,wk := 0 } : Node).say { msg 4 m.f.toNat r.ht with b := true } else r.say (msg 4 m.f.toNat r.ht)
def yes (r : Node) (v : Int) : Nat := ((List.range r.n).filter fun k => decide (r.sy k = v)).length
def said (r : Node) (m : Msg) : Node :=
 if m.k = 4 /\ r.ro ≠ 2 \/ m.k = 2 /\ (r.ro ≠ 1 \/ m.b = true /\ m.t ≠ r.ht + 1) then r
 else if r.sy m.f.toNat ≠ 0 then r
 else
  let r := { r with sy := put r.sy m.f.toNat (if m.b = true then 1 else 2) }
  if won (r.yes 1) r.n = true then (if r.ro = 1 then r.run else r.rise)
  else if lost (r.yes 2) r.n = true then r.fall r.ht (-1) else r
def app (r : Node) (m : Msg) : Node :=
 if r.ro = 3 then r
 else
  let r := r.fall m.t m.f
  if m.i < r.cm then r.say { msg 6 m.f.toNat r.ht with x := m.x,b := true,i := r.cm }
  else
   let k := r.lg.take m.i m.l m.es
   let r := { r with lg := k.1,cm := if k.2.2 = true /\ r.cm < min m.c k.2.1 then min m.c k.2.1 else r.cm }
   r.say { msg 6 m.f.toNat r.ht with x := m.x,b := k.2.2,i := k.2.1 }
def known (r : Node) (c : Int) : Bool := won (1 + (r.others.filter fun k => decide (c <= r.ac k)).length) r.n
def tell (r : Node) : Node := { r with td := r.td ++ r.rd.takeWhile (fun x => r.known x.1),rd := r.rd.dropWhile (fun x => r.known x.1) }
def apped (r : Node) (m : Msg) : Node :=
 if r.ro ≠ 3 then r
 else
  let k := m.f.toNat
  let r := if m.x <= r.cx /\ r.ac k < m.x then { r with ac := put r.ac k m.x } else r
  let i := min m.i r.lg.lastI
  if m.b = false then (({ r with nx := put r.nx k (max (min (r.nx k - 1) (i + 1)) (r.ma k + 1)) } : Node).send k).tell
  else
   let r := { r with ma := put r.ma k (max (r.ma k) i) }
   let r := { r with nx := put r.nx k (max (r.nx k) (r.ma k + 1)) }
   let q := r.settle
   (if q.2 = true then q.1.sendAll else if q.1.nx k <= q.1.lg.lastI then q.1.send k else q.1).tell
def whole (r : Node) (m : Msg) : Node :=
 if r.ro = 3 then r
 else
  let r := r.fall m.t m.f
  let r := if r.cm < m.s.i then
   (let r := if r.lg.at_ m.s.i = some m.s.t then r else { r with lg := ⟨m.s.i,m.s.t,[],0⟩,sn := m.s,kp := true }
    { r with cm := m.s.i }) else r
  r.say { msg 6 m.f.toNat r.ht with b := true,i := r.cm }
def step (r : Node) (m : Msg) : Node :=
 if m.t < r.ht then
  (if m.k = 5 \/ m.k = 7 then r.say (msg 6 m.f.toNat r.ht) else if m.k = 1 \/ m.k = 3 then r.say (msg (m.k + 1) m.f.toNat r.ht) else r)
 else
  let r := if r.ht < m.t /\ m.k ≠ 1 /\ (m.k ≠ 2 \/ m.b = false) then r.fall m.t (if m.k = 5 \/ m.k = 7 then m.f else -1) else r
  if m.k = 1 then r.poll m else if m.k = 2 \/ m.k = 4 then r.said m else if m.k = 3 then r.vote m else if m.k = 5 then r.app m else if m.k = 6 then r.apped m else r.whole m
def propose (r : Node) (d : List UInt8) : Node × Int × Int × Int :=
 if r.ro ≠ 3 then (r,0,0,14) else if 12000 < d.length then (r,0,0,1) else if 1099511627776 <= r.lg.lastI then (r,0,0,4)
 else (({ r with lg := r.grown d } : Node).settle.1.sendAll,r.lg.lastI + 1,r.ht,0)
def read (r : Node) : Node × Int × Int :=
 if r.ro ≠ 3 then (r,0,14) else if r.lg.at_ r.cm ≠ some r.ht then (r,0,7)
 else
  let r := { r with cx := r.cx + 1,rd := r.rd ++ [(r.cx + 1,r.cm)] }
  (r.tell.sendAll,r.cx,0)
def compact (r : Node) (x : Int) (d : List UInt8) : Node × Bool :=
 match r.lg.at_ x with
 | none => (r,false)
 | some t => if x < 1 \/ r.cm < x \/ 50000 < d.length then (r,false) else ({ r with lg := (r.lg.compact x).getD r.lg,sn := ⟨x,t,d⟩ },true)
structure Came where
 ht : Int
 hv : Int
 fr : List Ent
 sn : Ent
 ms : List Msg
 td : List (Int × Int)
def took (r : Node) : Node × Came :=
 ({ r with lg := { r.lg with f := 0 },kp := false,ms := [],td := [] },⟨r.ht,r.hv,r.lg.changed,if r.kp = true then r.sn else noEnt,r.ms,r.td⟩)
def part (r : Node) (a b : Int) : List Ent := r.lg.l.filter fun e => decide (a <= e.i) && decide (e.i <= b)
end Node
structure qar where
 at_ : Nat
 c : Int
 t : Int
 w : Nat
structure Sim where
 n : Nat
 r : Nat -> Node
 ht : Nat -> Int
 hv : Nat -> Int
 sn : Nat -> Ent
 lg : Nat -> List Ent
 net : List Msg
 ldr : List (Int × Nat)
 all : List Ent
 rds : List qar
namespace Sim
def upd {β : Type} (f : Nat -> β) (a : Nat) (v : β) : Nat -> β := fun x => if x = a then v else f x
def made (n : Nat) : Sim := ⟨n,fun k => Node.fresh k n 0 (-1) Node.noEnt [],fun _ => 0,fun _ => -1,fun _ => Node.noEnt,fun _ => [],[],[],[],[]⟩
def digest (l : List Ent) : List UInt8 :=
 let s := l.foldl (fun (s : Nat) e => e.d.foldl (fun (s : Nat) b => (s * 31 + b.toNat) % 4294967296) ((s * 31 + (e.t % 4294967296).toNat) % 4294967296)) (l.length % 4294967296)
 [UInt8.ofNat s,UInt8.ofNat (s / 256),UInt8.ofNat (s / 65536),UInt8.ofNat (s / 16777216)]
def keep (s : Sim) (k : Nat) : Sim × Node.Came :=
 let q := (s.r k).took
 let o := q.2
 let s := { s with r := upd s.r k q.1,ht := upd s.ht k o.ht,hv := upd s.hv k o.hv }
 let s := if 0 < o.sn.i then { s with sn := upd s.sn k o.sn,lg := upd s.lg k (q.1.part (o.sn.i + 1) 1099511627776) }
  else match o.fr with
   | [] => s
   | e :: _ => { s with lg := upd s.lg k ((s.lg k).filter (fun x => decide (x.i < e.i)) ++ o.fr) }
 ({ s with net := s.net ++ o.ms.take (100 - s.net.length) },o)
def lone (s : Sim) (k : Nat) : Sim × Bool :=
 if (s.r k).ro ≠ 3 then (s,true)
 else match s.ldr.find? fun x => decide (x.1 = (s.r k).ht) with
  | some x => (s,decide (x.2 = k))
  | none => ({ s with ldr := s.ldr ++ [((s.r k).ht,k)] },true)
def join (all : List Ent) : List Ent -> Option (List Ent)
 | [] => some all
 | e :: l => if e.i <= all.length then (match all[(e.i - 1).toNat]? with | some x => if oneB e.i e.t e.d x.i x.t x.d = true then join all l else none | none => none) else join (all ++ [e]) l
def agrees (s : Sim) (k : Nat) : Sim × Bool :=
 let x := s.r k
 let l := x.part (x.lg.i + 1) x.cm
 if (l.length : Int) ≠ x.cm - x.lg.i \/ (s.all.length : Int) < x.lg.i then (s,false)
 else match join s.all l with
  | none => (s,false)
  | some all => ({ s with all := all },decide (x.sn.i = x.lg.i) && (decide (x.sn.i = 0) || decide (x.sn.d = digest (all.take x.sn.i.toNat))))
def told (s : Sim) (k : Nat) (l : List (Int × Int)) : Bool :=
 l.all fun y => s.rds.all fun x => !(decide (x.at_ = k) && (decide (x.c = y.1) && (decide (x.t = (s.r k).ht) && decide (y.2 < x.w))))
def look (s : Sim) (k : Nat) : Sim × Bool :=
 let a := s.lone k
 if a.2 = false then a
 else
  let b := a.1.agrees k
  if b.2 = false then b
  else
   let c := b.1.keep k
   (c.1,c.1.told k c.2.td)
structure Move where
 k : Nat
 a : Nat
 x : Nat
 d : List UInt8
def move (s : Sim) (m : Move) : Sim × Bool :=
 let k := m.a % s.n
 if m.k = 0 then ({ s with r := upd s.r k (s.r k).tick } : Sim).look k
 else if m.k = 1 \/ m.k = 2 \/ m.k = 3 then
  (match s.net[m.x % s.net.length]? with
  | none => (s,true)
  | some y =>
    let s := if m.k = 3 then s else { s with net := s.net.eraseIdx (m.x % s.net.length) }
    if y.o < 0 \/ (s.n : Int) <= y.o then (s,false)
    else
     let k := y.o.toNat
     if m.k = 2 then s.look k
     else if (s.r k).heard y = false then (s,false) else ({ s with r := upd s.r k ((s.r k).step y) } : Sim).look k)
 else if m.k = 4 then ({ s with r := upd s.r k ((s.r k).propose m.d).1 } : Sim).look k
 else if m.k = 5 then
  (if Node.can k s.n (s.ht k) (s.hv k) (s.sn k) (s.lg k) = false then (s,false)
   else ({ s with r := upd s.r k (Node.fresh k s.n (s.ht k) (s.hv k) (s.sn k) (s.lg k)) } : Sim).look k)
 else if m.k = 6 then
  (let q := (s.r k).read
   let w := s.all.length
   let s := { s with r := upd s.r k q.1 }
   (if q.2.2 = 0 then { s with rds := s.rds ++ [⟨k,q.2.1,(s.r k).ht,w⟩] } else s).look k)
 else if m.k = 7 then
  (if (s.all.length : Int) < (s.r k).cm then (s,false)
   else
    let q := (s.r k).compact (s.r k).cm (digest (s.all.take (s.r k).cm.toNat))
    let s' := { s with r := upd s.r k q.1 }
    (if q.2 = true then { s' with sn := upd s.sn k q.1.sn,lg := upd s.lg k (q.1.part ((s.r k).cm + 1) 1099511627776) } else s').look k)
 else s.look k
end Sim
end Go.Proofs.YtmiijlecfiddmaaGreat
set_option linter.unusedVariables false
set_option linter.unusedSimpArgs false
set_option maxRecDepth 100000
set_option maxHeartbeats 2000000
namespace Go.Proofs.YtmiijlecfiddmaaGreat
open Go.RowKit
theorem qhL (A : Option Addr) (n c : Nat) (d : List UInt8) (A' : Option Addr) (n' c' : Nat) (d' : List UInt8) (w : World) (h : Lies w A n c d) (h' : Lies w A' n' c' d') :
 Calls Tryz.prog 124 #[.slice A n c, .slice A' n' c'] w fun e w' => e = .returned (.bool (decide (d = d'))) /\ w = w' := by
 have c1 := h.text Tryz.underlying23 Tryz.underlying5 Tryz.underlying9;have c2 := h'.text Tryz.underlying23 Tryz.underlying5 Tryz.underlying9;rw [qe0];generalize (⟨d.toArray⟩ : ByteArray) = S at *;generalize (⟨d'.toArray⟩ : ByteArray) = S' at *;clear h h'
 go_enter Tryz.func124,Tryz.ntmps124
 go_wp2;go_ret;exact ⟨rfl,rfl⟩
theorem qhM (i t : Int) (A : Option Addr) (n c : Nat) (d : List UInt8) (i' t' : Int) (A' : Option Addr) (n' c' : Nat) (d' : List UInt8) (w : World) (h : Lies w A n c d) (h' : Lies w A' n' c' d') :
 Calls Tryz.prog 107 #[entV i t A n c,entV i' t' A' n' c'] w fun e w' => e = .returned (.bool (oneB i t d i' t' d')) /\ Below w.heap.size w w' := by
 have hb : Below w.heap.size w ((w.alloc (.cells #[.int .i64 i, .int .i64 t, .slice A n c] 78)).alloc (.cells #[.int .i64 i', .int .i64 t', .slice A' n' c'] 78)) := ((Below.refl _ _).alloc (Nat.le_refl _) _).alloc (by simp) _;have hE := qhL A n c d A' n' c' d' _ (h.below hb (Nat.le_refl _)) (h'.below hb (Nat.le_refl _));unfold oneB;generalize decide (d = d') = q at *;clear h h'
 by_cases h1 : i = i'
 · subst h1;rw [decide_eq_true rfl,Bool.true_and]
   by_cases h2 : t = t'
   · subst h2;rw [decide_eq_true rfl,Bool.true_and]
     go_enter Tryz.func107,Tryz.ntmps107
     go_wp2_with fail
     refine hE.mono ?_;rintro e w1 ⟨rfl,rfl⟩;go_wp2;go_ret;exact ⟨rfl,hb⟩
   · have e1 : (t == t') = false := beq_eq_false_iff_ne.2 h2;have e2 : (t = t') = False := eq_false h2;rw [decide_eq_false h2,Bool.false_and];clear h2 hE
     go_enter Tryz.func107,Tryz.ntmps107
     go_wp2;go_ret;exact ⟨rfl,hb⟩
 · have e1 : (i == i') = false := beq_eq_false_iff_ne.2 h1;have e2 : (i = i') = False := eq_false h1;rw [decide_eq_false h1,Bool.false_and];clear h1 hE
   go_enter Tryz.func107,Tryz.ntmps107
   go_wp2;go_ret;exact ⟨rfl,hb⟩
abbrev qkh : Value := .func (.func 107) #[] #[]
theorem qhN (Z Y : Nat -> Prop) (A : Option Addr) (len cap : Nat) (ls : List Ent) (B : Option Addr) (n capB : Nat) (ts : List Ent) (w : World) (h : Ents w Z A len cap ls) (h' : Ents w Y B n capB ts) (hm : len <= maxLen) :
 Calls Tryz.prog 106 #[.slice A len cap, .slice B n capB,qkh] w fun e w' => e = .returned (.bool (qaa ls ts)) /\ Below w.heap.size w w' := by
 unfold maxLen at hm;have hll := h.1;have hln := h'.1
 by_cases hlen : len = n
 · subst hlen
   go_enter Tryz.func106,Tryz.ntmps106
   go_wp2
   go_loopg [6,7,8,9,17] len (fun g r s7 s8 s9 i wr => ∃ k : Nat,k + g = len /\ i = .int .i64 (k : Int) /\ (∀ j,j < k -> qa5 ls ts j = true) /\ Below w.heap.size w wr)
   case atStart => exact ⟨0,by omega,rfl,fun j hj => absurd hj (by omega),Below.refl _ _⟩
   case round =>
    obtain ⟨k,hk,rfl,hall,hb⟩ := hrel
    by_cases hlt : k < len
    · have hlt' : (k : Int) < (len : Int) := by omega
      obtain ⟨g,off,E,c,rfl,hg,x0,x1,x2,hl⟩ := (h.below hb (Nat.le_refl _)).at_ k hlt;obtain ⟨g',off',E',c',rfl,hg',y0,y1,y2,hl'⟩ := (h'.below hb (Nat.le_refl _)).at_ k hlt;have hone := qjj ls ts k (by omega) (by omega);generalize (ls[k]'(by omega)) = a at *;generalize (ts[k]'(by omega)) = b at *;obtain ⟨ai,at_,ad⟩ := a;obtain ⟨bi,bt,bd⟩ := b;dsimp only at *
      have hO := fun W (hW : Below wr.heap.size wr W) => qhM ai at_ E ad.length c ad bi bt E' bd.length c' bd W (hl.below hW (Nat.le_refl _)) (hl'.below hW (Nat.le_refl _))
      rw [<- hone] at hO;have hA1 := (Below.refl wr.heap.size wr).alloc (Nat.le_refl _) (.cells #[.int .i64 ai, .int .i64 at_, .slice E ad.length c] 78);have hA2 := hA1.alloc hA1.size (.cells #[.int .i64 bi, .int .i64 bt, .slice E' bd.length c'] 78);have hO := hO _ hA2;have HALL := Lib.hid hall;have HB := Lib.hid (hb.trans (hA2.mono hb.size));have HK := Lib.hid hk
      cases hv : qa5 ls ts k with
      | true =>
        rw [hv] at hO;have HT := Lib.hid hv;clear hone hall hv hl hl' hk hA1 hA2;generalize ad.length = n1 at *;generalize bd.length = n2 at *
        go_wp2_with fail
        refine hO.mono ?_;rintro e w1 ⟨rfl,hb1⟩;have hbw := Below.trans HB (hb1.mono (show Below w.heap.size w _ from HB).size);go_wp2
        go_roundg (gk - 1)
        case measure => have : k + gk = len := HK; omega
        case rel => exact ⟨k + 1,by have : k + gk = len := HK; omega,by go_num,fun j hj => by
         rcases Nat.lt_or_ge j k with h1 | h1
         · exact (HALL : ∀ j,j < k -> qa5 ls ts j = true) j h1
         · have e : j = k := by omega
           rw [e]; exact HT,hbw⟩
      | false =>
        rw [hv] at hO;have HF := Lib.hid (qji (a := ls) (b := ts) k (by omega) hv);clear hone hall hv hl hl' hk hA1 hA2;generalize ad.length = n1 at *;generalize bd.length = n2 at *
        go_wp2_with fail
        refine hO.mono ?_;rintro e w1 ⟨rfl,hb1⟩;have hbw := Below.trans HB (hb1.mono (show Below w.heap.size w _ from HB).size);go_wp2;go_ret;exact ⟨by have e : qaa ls ts = false := HF; rw [e]; rfl,hbw⟩
    · obtain rfl : k = len := by omega
      have hdec : decide ((k : Int) < (k : Int)) = false := decide_eq_false (by omega);have HT := Lib.hid (qhD (a := ls) (b := ts) (by omega) (fun j hj => hall j (by omega)));clear h h' hall hk hm;go_wp2;go_ret;exact ⟨by have e : qaa ls ts = true := HT; rw [e]; rfl,hb⟩
 · have hF := Lib.hid (show qaa ls ts = false by unfold qaa; rw [decide_eq_false (by omega),Bool.false_and])
   have hne : ((len : Int) != (n : Int)) = true := by simp; omega
   have hne2 : ((len : Int) = (n : Int)) = False := eq_false (by omega);clear h h' hlen hll hln hm
   go_enter Tryz.func106,Tryz.ntmps106
   go_wp2;go_ret;exact ⟨by have e : qaa ls ts = false := hF; rw [e]; rfl,Below.refl _ _⟩
theorem qd9 (Z Y : Nat -> Prop) (A : Option Addr) (len cap : Nat) (ls : List Ent) (B : Option Addr) (n capB : Nat) (ts : List Ent) (w : World) (h : Ents w Z A len cap ls) (h' : Ents w Y B n capB ts) (hm : len <= maxLen) :
 Calls Tryz.prog 96 #[.slice A len cap, .slice B n capB] w fun e w' => e = .returned (.bool (qaa ls ts)) /\ Below w.heap.size w w' := by
 have hE := qhN Z Y A len cap ls B n capB ts w h h' hm;generalize qaa ls ts = q at *;clear h h' hm
 go_enter Tryz.func96,Tryz.ntmps96
 go_wp2_with fail
 refine hE.mono ?_;rintro e w1 ⟨rfl,hb1⟩;go_wp2;go_ret;exact ⟨rfl,hb1⟩
end Go.Proofs.YtmiijlecfiddmaaGreat
set_option linter.unusedVariables false
set_option linter.unusedSimpArgs false
set_option maxRecDepth 100000
set_option maxHeartbeats 200000
namespace Go.Proofs.YtmiijlecfiddmaaGreat
open Go.RowKit
def qbo (i t : Int) : Bool := numB i && numB t
theorem qeE (i t : Int) (n : Nat) : qat i t n = (qbo i t && decide (n <= 12000)) := rfl
theorem qea (i t : Int) (w : World) : Calls Tryz.prog 86 #[.int .i64 i, .int .i64 t] w fun e w' => e = .returned (.bool (qbo i t)) /\ w = w' := by
 unfold qbo numB
 by_cases h1 : 1 <= i
 · rw [decide_eq_true h1,Bool.true_and]
   by_cases h2 : i <= 1099511627776
   · rw [decide_eq_true h2,Bool.true_and]
     by_cases h3 : 1 <= t
     · rw [decide_eq_true h3,Bool.true_and]
       go_enter Tryz.func86,Tryz.ntmps86
       go_wp2;go_ret;exact ⟨rfl,rfl⟩
     · have e1 : decide (1 <= t) = false := decide_eq_false h3;have e2 : (1 <= t) = False := eq_false h3;rw [e1,Bool.false_and];clear h3
       go_enter Tryz.func86,Tryz.ntmps86
       go_wp2;go_ret;exact ⟨rfl,rfl⟩
   · have e1 : decide (i <= 1099511627776) = false := decide_eq_false h2;have e2 : (i <= 1099511627776) = False := eq_false h2;rw [e1,Bool.false_and];clear h2
     go_enter Tryz.func86,Tryz.ntmps86
     go_wp2;go_ret;exact ⟨rfl,rfl⟩
 · have e1 : decide (1 <= i) = false := decide_eq_false h1;have e2 : (1 <= i) = False := eq_false h1;rw [e1,Bool.false_and,Bool.false_and];clear h1
   go_enter Tryz.func86,Tryz.ntmps86
   go_wp2;go_ret;exact ⟨rfl,rfl⟩
theorem qeb (i t : Int) (A : Option Addr) (n c : Nat) (w : World) : Calls Tryz.prog 64 #[entV i t A n c] w fun e w' => e = .returned (.bool (qat i t n)) /\ Below w.heap.size w w' := by
 have hi := fun W => qea i t W
 have hb : Below w.heap.size w (w.alloc (.cells #[.int .i64 i, .int .i64 t, .slice A n c] 78)) := (Below.refl _ _).alloc (Nat.le_refl _) _;rw [qeE];generalize qbo i t = bi at *
 cases bi with
 | false =>
   go_enter Tryz.func64,Tryz.ntmps64
   go_wp2_with fail
   refine (hi _).mono ?_;rintro e w1 ⟨rfl,rfl⟩;go_wp2;go_ret;exact ⟨rfl,hb⟩
 | true =>
   go_enter Tryz.func64,Tryz.ntmps64
   go_wp2_with fail
   refine (hi _).mono ?_;rintro e w1 ⟨rfl,rfl⟩;go_wp2;go_ret;refine ⟨?_,hb⟩;show Ending.returned (.bool (decide ((n : Int) <= 12000))) = _;rw [qhC n 12000 12000 rfl]
   rfl
theorem qjl (t v : Int) (w : World) : Calls Tryz.prog 53 #[.agg #[.int .i64 t, .int .i64 v]] w fun e w' => e = .returned (.bool (qcO t v)) /\ Below w.heap.size w w' := by
 have hb : Below w.heap.size w (w.alloc (.cells #[.int .i64 t, .int .i64 v] 40)) := (Below.refl _ _).alloc (Nat.le_refl _) _;unfold qcO
 have hv : decide (v <= 2) = decide (v < 3) := by
  apply Bool.eq_iff_iff.2
  simp;omega
 rw [hv];clear hv
 by_cases h1 : 0 <= t
 · rw [decide_eq_true h1,Bool.true_and]
   by_cases h2 : t <= 1099511627776
   · rw [decide_eq_true h2,Bool.true_and]
     by_cases h3 : -1 <= v
     · rw [decide_eq_true h3,Bool.true_and]
       go_enter Tryz.func53,Tryz.ntmps53
       go_wp2;go_ret;exact ⟨rfl,hb⟩
     · have e1 : decide (-1 <= v) = false := decide_eq_false h3;have e2 : (-1 <= v) = False := eq_false h3;rw [e1,Bool.false_and];clear h3
       go_enter Tryz.func53,Tryz.ntmps53
       go_wp2;go_ret;exact ⟨rfl,hb⟩
   · have e1 : decide (t <= 1099511627776) = false := decide_eq_false h2;have e2 : (t <= 1099511627776) = False := eq_false h2;rw [e1,Bool.false_and];clear h2
     go_enter Tryz.func53,Tryz.ntmps53
     go_wp2;go_ret;exact ⟨rfl,hb⟩
 · have e1 : decide (0 <= t) = false := decide_eq_false h1;have e2 : (0 <= t) = False := eq_false h1;rw [e1,Bool.false_and];clear h1
   go_enter Tryz.func53,Tryz.ntmps53
   go_wp2;go_ret;exact ⟨rfl,hb⟩
theorem qe2 (i t : Int) (A : Option Addr) (n c : Nat) (w : World) : Calls Tryz.prog 54 #[entV i t A n c] w fun e w' => e = .returned (.bool (qak i t n)) /\ Below w.heap.size w w' := by
 have hi := fun W => qea i t W
 have hb : Below w.heap.size w (w.alloc (.cells #[.int .i64 i, .int .i64 t, .slice A n c] 25)) := (Below.refl _ _).alloc (Nat.le_refl _) _;have hs : qak i t n = if i = 0 /\ t = 0 then decide (n = 0) else qbo i t && decide (n <= 50000) := rfl;rw [hs];clear hs
 by_cases h0 : i = 0 /\ t = 0
 · rw [if_pos h0];obtain ⟨rfl,rfl⟩ := h0;clear hi
   go_enter Tryz.func54,Tryz.ntmps54
   go_wp2;go_ret;refine ⟨?_,hb⟩;show Ending.returned (.bool ((n : Int) == 0)) = _;rw [qkf]
 · rw [if_neg h0];generalize qbo i t = bi at *
   have hif : (i == 0) = false \/ (i = 0 /\ (t == 0) = false /\ (t = 0) = False) := by
    by_cases h : i = 0
    · refine .inr ⟨h,?_,eq_false fun e => h0 ⟨h,e⟩⟩
      exact beq_eq_false_iff_ne.2 fun e => h0 ⟨h,e⟩
    · exact .inl (beq_eq_false_iff_ne.2 h)
   clear h0;rcases hif with hif | ⟨rfl,htf,htf2⟩
   all_goals
    cases bi
    · go_enter Tryz.func54,Tryz.ntmps54
      go_wp2_with fail
      refine (hi _).mono ?_;rintro e w1 ⟨rfl,rfl⟩;go_wp2;go_ret;exact ⟨rfl,hb⟩
    · go_enter Tryz.func54,Tryz.ntmps54
      go_wp2_with fail
      refine (hi _).mono ?_;rintro e w1 ⟨rfl,rfl⟩;go_wp2;go_ret;refine ⟨?_,hb⟩;show Ending.returned (.bool (decide ((n : Int) <= 50000))) = _;rw [qhC n 50000 50000 rfl]
      rfl
end Go.Proofs.YtmiijlecfiddmaaGreat
set_option linter.unusedVariables false
set_option linter.unusedSimpArgs false
set_option maxRecDepth 100000
set_option maxHeartbeats 3200000
namespace Go.Proofs.YtmiijlecfiddmaaGreat
open Go.RowKit
theorem qc9 (Z : Nat -> Prop) (A : Option Addr) (len cap : Nat) (ls : List Ent) (i t : Int) (w : World) (h : Ents w Z A len cap ls) (hm : len <= maxLen) :
 Calls Tryz.prog 88 #[.int .i64 i, .int .i64 t, .slice A len cap] w fun e w' => e = .returned (.bool (runB i t ls)) /\ Below w.heap.size w w' := by
 unfold maxLen at hm;have hll := h.1
 go_enter Tryz.func88,Tryz.ntmps88
 go_wp2
 go_loopg [0,1,8,11] len (fun g ii tt r kk wr => ∃ k : Nat,k + g = len /\ kk = .int .i64 (k : Int) /\ ii = .int .i64 (qbD i ls k) /\ tt = .int .i64 (qbE t ls k) /\ (∀ j,j < k -> qaT i t ls j = true) /\ Below w.heap.size w wr)
 case atStart => exact ⟨0,by omega,rfl,rfl,rfl,fun j hj => absurd hj (by omega),Below.refl _ _⟩
 case round =>
  obtain ⟨k,hk,rfl,rfl,rfl,hall,hb⟩ := hrel
  by_cases hlt : k < len
  · have hlt' : (k : Int) < (len : Int) := by omega
    have hbelow := h.below hb (Nat.le_refl _);obtain ⟨g,off,E,c,rfl,hg,x0,x1,x2,hl⟩ := hbelow.at_ k hlt;have hst := qeS i t ls k (by omega);have hnx := qd4 i t ls k (by omega);have HNI := Lib.hid hnx.1;have HNT := Lib.hid hnx.2;clear hnx;generalize hpT : qbE t ls k = T at *;generalize hpI : qbD i ls k = I at *;generalize (ls[k]'(by omega)) = a at *;obtain ⟨ai,at_,ad⟩ := a;dsimp only at *
    have hR := fun W => qeb ai at_ E ad.length c W
    have hri := qy ai at_ ad.length;have hA1 := (Below.refl wr.heap.size wr).alloc (Nat.le_refl _) (.cells #[.int .i64 ai, .int .i64 at_, .slice E ad.length c] 78);have hr1 := heap_alloc_new wr (.cells #[.int .i64 ai, .int .i64 at_, .slice E ad.length c] 78);have hbA : Below w.heap.size w (wr.alloc (.cells #[.int .i64 ai, .int .i64 at_, .slice E ad.length c] 78)) := hb.trans (hA1.mono hb.size);generalize ad.length = n at *;obtain ⟨⟨y0,y1,y2⟩,_⟩ := row3 hr1;have HALL := Lib.hid hall;have HK := Lib.hid hk
    have hsz : wr.heap.size < (wr.alloc (.cells #[.int .i64 ai, .int .i64 at_, .slice E n c] 78)).heap.size := by simp
    cases hb2 : qat ai at_ n with
    | false =>
      rw [hb2] at hR hst;rw [Bool.false_and] at hst;have HF := Lib.hid (qdN (i := i) (t := t) (l := ls) k (by omega) hst);clear hst hpT hpI hri hall hk hbelow h hl hb2
      go_wp2_with fail
      refine (hR _).mono ?_;rintro e w1 ⟨rfl,hb1⟩;have hbw : Below w.heap.size w w1 := hbA.trans (hb1.mono hbA.size);go_wp2;go_ret;exact ⟨by have e : runB i t ls = false := HF; rw [e]; rfl,hbw⟩
    | true =>
      rw [hb2,Bool.true_and] at hst;rw [hb2] at hR;have hrr := hri.1 hb2;clear hpT hpI hri hall hk hbelow h hl hb2 hb
      go_wp2_with fail
      refine (hR _).mono ?_;rintro e w1 ⟨rfl,hb1⟩;have hbw : Below w.heap.size w w1 := hbA.trans (hb1.mono hbA.size);obtain ⟨⟨z0,z1,z2⟩,_⟩ := row3 ((hb1.block _ hsz).trans hr1);obtain ⟨J,hJ⟩ := exq (ai - 1)
      have q4 : wrap64 (ai - 1) = J := by rw [<- hJ,<- IntWalk.i64_left]; exact IntWalk.i64_in _ (by omega)
      clear hR x0 x1 x2 y0 y1 y2 hr1 hA1 hb1 hbA hsz
      by_cases hI : ai = I + 1
      · have hJI : J = I := by omega
        subst hJI;rw [decide_eq_true hI,Bool.and_true] at hst;clear hI hJ
        by_cases hT : T <= at_
        · have q1 : (at_ < T) = False := eq_false (by omega);have HST := Lib.hid (hst.trans (decide_eq_true hT));clear hst hT hrr;go_wp2
          go_big_quiet (fail)
          go_wp2
          go_roundg (gk - 1)
          case measure => have : k + gk = len := HK; omega
          case rel => exact ⟨k + 1,by have : k + gk = len := HK; omega,by go_num,by have e : qbD i ls (k + 1) = ai := HNI; rw [e],by have e : qbE t ls (k + 1) = at_ := HNT; rw [e],fun j hj => by
           rcases Nat.lt_or_ge j k with h1 | h1
           · exact (HALL : ∀ j,j < k -> qaT i t ls j = true) j h1
           · have e : j = k := by omega
             rw [e]; exact HST,below_drewN hbw _⟩
        · have q1 : at_ < T := by omega
          have HF := Lib.hid (qdN (i := i) (t := t) (l := ls) k (by omega) (by rw [hst,decide_eq_false hT]));clear hst hT hrr;go_wp2;go_ret;exact ⟨by have e : runB i t ls = false := HF; rw [e]; rfl,hbw⟩
      · have hJI : ¬ J = I := by omega
        have q5 : (J != I) = true := by simp [hJI]
        have q6 : (J = I) = False := eq_false hJI;have HF := Lib.hid (qdN (i := i) (t := t) (l := ls) k (by omega) (by rw [hst,decide_eq_false hI,Bool.and_false]));clear hst hrr hI hJ hJI;go_wp2;go_ret;exact ⟨by have e : runB i t ls = false := HF; rw [e]; rfl,hbw⟩
  · obtain rfl : k = len := by omega
    have hdec : decide ((k : Int) < (k : Int)) = false := decide_eq_false (by omega);have HT := Lib.hid (qjc (i := i) (t := t) (l := ls) (fun j hj => hall j (by omega)));clear h hall hk hm;go_wp2;go_ret;exact ⟨by have e : runB i t ls = true := HT; rw [e]; rfl,hb⟩
end Go.Proofs.YtmiijlecfiddmaaGreat
set_option linter.unusedVariables false
set_option linter.unusedSimpArgs false
set_option maxRecDepth 100000
set_option maxHeartbeats 200000
namespace Go.Proofs.YtmiijlecfiddmaaGreat
open Go.RowKit
abbrev mC (k f o t i l c x : Int) (b : Bool) (A : Option Addr) (n cA : Nat) (si st : Int) (E : Option Addr) (sn cE : Nat) : Array Value :=
 #[.int .i64 k, .int .i64 f, .int .i64 o, .int .i64 t, .int .i64 i, .int .i64 l, .int .i64 c, .int .i64 x, .bool b, .slice A n cA, .int .i64 si, .int .i64 st, .slice E sn cE]
abbrev msgV (m : Msg) (A : Option Addr) (cA : Nat) (E : Option Addr) (cE : Nat) : Value :=
 .agg #[.int .i64 m.k, .int .i64 m.f, .int .i64 m.o, .int .i64 m.t, .int .i64 m.i, .int .i64 m.l, .int .i64 m.c, .int .i64 m.x, .bool m.b, .slice A m.es.length cA, .int .i64 m.s.i, .int .i64 m.s.t, .slice E m.s.d.length cE]
theorem qu {w : World} {g : Nat} {v0 v1 v2 v3 v4 v5 v6 v7 v8 v9 v10 v11 v12 : Value} {T : TypeId} (h : w.heap[g]? = some (.cells #[v0,v1,v2,v3,v4,v5,v6,v7,v8,v9,v10,v11,v12] T)) : (w.cell? ⟨g,0,none⟩ = some v0 /\ w.cell? ⟨g,1,none⟩ = some v1 /\ w.cell? ⟨g,2,none⟩ = some v2 /\ w.cell? ⟨g,3,none⟩ = some v3 /\ w.cell? ⟨g,4,none⟩ = some v4 /\ w.cell? ⟨g,5,none⟩ = some v5 /\ w.cell? ⟨g,6,none⟩ = some v6 /\ w.cell? ⟨g,7,none⟩ = some v7 /\ w.cell? ⟨g,8,none⟩ = some v8 /\ w.cell? ⟨g,9,none⟩ = some v9 /\ w.cell? ⟨g,10,none⟩ = some v10 /\ w.cell? ⟨g,11,none⟩ = some v11 /\ w.cell? ⟨g,12,none⟩ = some v12) /\ (w.frozen? ⟨g,0,none⟩ = false /\ w.frozen? ⟨g,1,none⟩ = false /\ w.frozen? ⟨g,2,none⟩ = false /\ w.frozen? ⟨g,3,none⟩ = false /\ w.frozen? ⟨g,4,none⟩ = false /\ w.frozen? ⟨g,5,none⟩ = false /\ w.frozen? ⟨g,6,none⟩ = false /\ w.frozen? ⟨g,7,none⟩ = false /\ w.frozen? ⟨g,8,none⟩ = false /\ w.frozen? ⟨g,9,none⟩ = false /\ w.frozen? ⟨g,10,none⟩ = false /\ w.frozen? ⟨g,11,none⟩ = false /\ w.frozen? ⟨g,12,none⟩ = false) := by
 refine ⟨⟨?_,?_,?_,?_,?_,?_,?_,?_,?_,?_,?_,?_,?_⟩,⟨?_,?_,?_,?_,?_,?_,?_,?_,?_,?_,?_,?_,?_⟩⟩ <;> simp [World.cell?,World.frozen?,h]
structure qo (w : World) (Z : Nat -> Prop) (m : Msg) (A : Option Addr) (cA : Nat) (E : Option Addr) (cE : Nat) : Prop where
 ents : Ents w Z A m.es.length cA m.es
 hm : cA <= maxLen
 lies : Lies w E m.s.d.length cE m.s.d
 hz : 0 < m.s.d.length -> ∀ g off,E = some ⟨g,off,none⟩ -> Z g
section
variable {w w' : World} {Z Z' : Nat → Prop} {m : Msg} {A E : Option Addr} {cA cE : Nat}
theorem qo.len (h : qo w Z m A cA E cE) : m.es.length <= maxLen := Nat.le_trans h.ents.2.1 h.hm
theorem qo.keep (h : qo w Z m A cA E cE) (hs : w.heap.size <= w'.heap.size) (hk : ∀ k,k < w.heap.size -> Z k -> w'.heap[k]? = w.heap[k]?) : qo w' Z m A cA E cE :=
 ⟨h.ents.keep hs hk,h.hm,h.lies.keep hs fun h0 g off e hg => hk g hg (h.hz h0 g off e),h.hz⟩
theorem qo.keeps (h : qo w Z m A cA E cE) (hk : qf Z w w') : qo w' Z m A cA E cE := h.keep hk.size fun k h1 h2 => hk.block k h1 h2
theorem qo.below (h : qo w Z m A cA E cE) {B : Nat} (hb : Below B w w') (hB : w.heap.size <= B) : qo w' Z m A cA E cE :=
 h.keep hb.size fun k hk _ => hb.block k (Nat.lt_of_lt_of_le hk hB)
theorem qo.mono (h : qo w Z m A cA E cE) (hz : ∀ k,Z k -> Z' k) : qo w Z' m A cA E cE :=
 ⟨h.ents.mono hz,h.hm,h.lies,fun h0 g off e => hz _ (h.hz h0 g off e)⟩
theorem qY (w : World) (Z : Nat -> Prop) : Ents w Z none 0 0 [] := ⟨rfl,Nat.le_refl _,fun _ => rfl,fun h => absurd h (by omega)⟩
theorem qo.zero (w : World) (Z : Nat -> Prop) : qo w Z Msg.zero none 0 none 0 :=
 ⟨qY w Z,Nat.zero_le _,Lies.nil w,fun h => absurd h (by simp [Msg.zero])⟩
theorem qo.of {m' : Msg} (h : qo w Z m A cA E cE) (he : m'.es = m.es) (hs : m'.s.d = m.s.d) : qo w Z m' A cA E cE := by
 obtain ⟨h1,h2,h3,h5⟩ := h;refine ⟨by rw [he]; exact h1,h2,by rw [hs]; exact h3,by rw [hs]; exact h5⟩
end
def qb9 (n : Int) : Bool := decide (0 <= n) && decide (n < 3)
theorem qbg (n : Int) (w : World) : Calls Tryz.prog 95 #[.int .i64 n] w fun e w' => e = .returned (.bool (numZ n)) /\ w = w' := by
 unfold numZ
 by_cases h1 : 0 <= n
 · rw [decide_eq_true h1,Bool.true_and]
   go_enter Tryz.func95,Tryz.ntmps95
   go_wp2;go_ret;exact ⟨rfl,rfl⟩
 · have e1 : decide (0 <= n) = false := decide_eq_false h1;have e2 : (0 <= n) = False := eq_false h1;rw [e1,Bool.false_and];clear h1
   go_enter Tryz.func95,Tryz.ntmps95
   go_wp2;go_ret;exact ⟨rfl,rfl⟩
theorem qe3 (n : Int) (w : World) : Calls Tryz.prog 94 #[.int .i64 n] w fun e w' => e = .returned (.bool (qb9 n)) /\ w = w' := by
 unfold qb9
 by_cases h1 : 0 <= n
 · rw [decide_eq_true h1,Bool.true_and]
   go_enter Tryz.func94,Tryz.ntmps94
   go_wp2;go_ret;exact ⟨rfl,rfl⟩
 · have e1 : decide (0 <= n) = false := decide_eq_false h1;have e2 : (0 <= n) = False := eq_false h1;rw [e1,Bool.false_and];clear h1
   go_enter Tryz.func94,Tryz.ntmps94
   go_wp2;go_ret;exact ⟨rfl,rfl⟩
end Go.Proofs.YtmiijlecfiddmaaGreat
set_option linter.unusedVariables false
set_option linter.unusedSimpArgs false
set_option maxRecDepth 100000
set_option maxHeartbeats 200000
namespace Go.Proofs.YtmiijlecfiddmaaGreat
open Go.RowKit
theorem qki (X : World) (n : Nat) (a b c d a0 b0 c0 d0 : Value) (T : TypeId) (h : X.heap[n]? = some (.cells #[a0,b0,c0,d0] T)) : ((((X.setCell ⟨n,0,none⟩ a).setCell ⟨n,1,none⟩ b).setCell ⟨n,2,none⟩ c).setCell ⟨n,3,none⟩ d).heap[n]? = some (.cells #[a,b,c,d] T) := by
 simp only [World.setCell,Array.getElem?_modify,if_true,h,Option.map_some];simp
theorem qs.old {w : World} {Z : Nat -> Prop} {x : Lay} (h : qs w Z x) : qs w (fun q => Z q /\ q < w.heap.size) x := by
 refine ⟨h.1,h.2.1,fun h0 q o e => ⟨h.2.2 h0 q o e,?_⟩⟩;obtain ⟨g,off,e2,hg,_⟩ := h.2.1.2.2.2 h0;rw [e] at e2;injection e2 with e2;injection e2 with e2;subst e2;exact hg
end Go.Proofs.YtmiijlecfiddmaaGreat
