/- A node of a cluster, step by step, as a value (the document's words); a cluster of them. Plain mathematics. -/
import Derived.Test.YtmiijlecfiddmaaNNM03
import Derived.Test.YtmiijlecfiddmaaNNM02
import Derived.Laws.Rows
import Derived.Laws.ResultCell
import Derived.Test.YtmiijlecfiddmaaNNM01
set_option linter.unusedVariables false
set_option linter.unusedSimpArgs false
set_option maxRecDepth 100000
set_option maxHeartbeats 200000
namespace Go.Proofs.Ytmiijlecfiddmaa
structure Node where
 id : Nat
 n : Nat
 ht : Int
 hv : Int
 sn : Ent
 kp : Bool
 lg : RL
 cm : Int
 ro : Int
 ld : Int
 wk : Int
 sy : Nat -> Int
 nx : Nat -> Int
 ma : Nat -> Int
 ac : Nat -> Int
 cx : Int
 rd : List (Int × Int)
 ms : List Msg
 td : List (Int × Int)
namespace Node
def zeroF : Nat -> Int := fun _ => 0
def noEnt : Ent := ⟨0,0,[]⟩
def put (f : Nat -> Int) (a : Nat) (v : Int) : Nat -> Int := fun x => if x = a then v else f x
def won (yes n : Nat) : Bool := decide (1 <= n /\ yes <= n /\ n < 2 * yes)
def lost (no n : Nat) : Bool := decide (1 <= n /\ no <= n /\ n <= 2 * no)
def others (r : Node) : List Nat := (List.range r.n).filter fun k => decide (k ≠ r.id)
def fresh (id n : Nat) (ht hv : Int) (s : Ent) (l : List Ent) : Node :=
 ⟨id,n,ht,hv,s,false,⟨s.i,s.t,l,0⟩,s.i,0,-1,0,zeroF,zeroF,zeroF,zeroF,0,[],[],[]⟩
def can (id n : Int) (ht hv : Int) (s : Ent) (l : List Ent) : Bool :=
 decide (1 <= n /\ n <= 3 /\ 0 <= id /\ id < n) && (qF ht hv && (qG s.i s.t s.d.length && (runB s.i s.t l && (decide (s.t <= ht) && decide ((⟨s.i,s.t,l,0⟩ : RL).lastT <= ht)))))
def say (r : Node) (m : Msg) : Node := { r with ms := r.ms ++ [{ m with f := r.id }] }
def fall (r : Node) (t : Int) (lead : Int) : Node :=
 { r with ht := if r.ht < t then t else r.ht,hv := if r.ht < t then -1 else r.hv,ro := 0,ld := lead,wk := 0,rd := [],sy := zeroF,nx := zeroF,ma := zeroF,ac := zeroF,cx := 0 }
def msg (k : Int) (tz : Nat) (t : Int) : Msg := ⟨k,0,tz,t,0,0,0,0,false,[],noEnt⟩
def send (r : Node) (tz : Nat) : Node :=
 if r.nx tz <= r.lg.i then r.say { msg 7 tz r.ht with s := r.sn }
 else r.say { msg 5 tz r.ht with i := r.nx tz - 1,l := (r.lg.at_ (r.nx tz - 1)).getD 0,c := r.cm,x := r.cx,es := r.lg.fromL (r.nx tz) 4 }
def sendAll (r : Node) : Node := r.others.foldl send r
def reached (l : List Int) : Int := (l.filter fun v => decide (l.length < 2 * (l.filter fun u => decide (v <= u)).length)).foldl max 0
def settle (r : Node) : Node × Bool :=
 let k := reached (r.lg.lastI :: r.others.map r.ma)
 if k <= r.cm \/ r.lg.at_ k ≠ some r.ht then (r,false) else ({ r with cm := k },true)
def grown (r : Node) (d : List UInt8) : RL := (r.lg.add r.ht d).getD r.lg
def rise (r : Node) : Node :=
 let r : Node := { r with ro := 3,ld := r.id,wk := 0,cx := 0,rd := [],ma := zeroF,ac := zeroF,nx := fun k => if k < r.n /\ k ≠ r.id then r.lg.lastI + 1 else 0 }
 ({ r with lg := r.grown [] } : Node).settle.1.sendAll
def ask (r : Node) (k : Int) (t : Int) : Node := r.others.foldl (fun r tz => r.say { msg k tz t with i := r.lg.lastI,l := r.lg.lastT }) r
def count (r : Node) (role : Int) : Node := { r with ro := role,ld := -1,wk := 0,sy := put zeroF r.id 1 }
def run (r : Node) : Node :=
 let r := ({ r with ht := r.ht + 1,hv := r.id } : Node).count 2
 if r.n = 1 then r.rise else r.ask 3 r.ht
def tick (r : Node) : Node :=
 let r := { r with wk := r.wk + 1 }
 if r.ro = 3 /\ 2 <= r.wk then ({ r with wk := 0 } : Node).sendAll
 else if r.ro = 3 \/ r.wk < 6 + 3 * (r.id : Int) \/ 1099511627776 <= r.ht \/ 1099511627776 <= r.lg.lastI then r
 else
  let r := r.count 1
  if r.n = 1 then r.run else r.ask 1 (r.ht + 1)
def heard (r : Node) (m : Msg) : Bool := qd8 m && (decide (m.f < r.n) && decide (m.o = r.id))
def poll (r : Node) (m : Msg) : Node :=
 if r.ht < m.t /\ r.lg.newer m.i m.l = true /\ (r.ld = -1 \/ r.ro ≠ 3 /\ 6 <= r.wk) then r.say { msg 2 m.f.toNat m.t with b := true } else r.say (msg 2 m.f.toNat r.ht)
def vote (r : Node) (m : Msg) : Node :=
 if (r.hv = -1 \/ r.hv = m.f) /\ r.lg.newer m.i m.l = true then ({ r with hv := m.f,wk := 0 } : Node).say { msg 4 m.f.toNat r.ht with b := true } else r.say (msg 4 m.f.toNat r.ht)
def yes (r : Node) (v : Int) : Nat := ((List.range r.n).filter fun k => decide (r.sy k = v)).length
def said (r : Node) (m : Msg) : Node :=
 if m.k = 4 /\ r.ro ≠ 2 \/ m.k = 2 /\ (r.ro ≠ 1 \/ m.b = true /\ m.t ≠ r.ht + 1) then r
 else if r.sy m.f.toNat ≠ 0 then r
 else
  let r := { r with sy := put r.sy m.f.toNat (if m.b = true then 1 else 2) }
  if won (r.yes 1) r.n = true then (if r.ro = 1 then r.run else r.rise)
  else if lost (r.yes 2) r.n = true then r.fall r.ht (-1) else r
def app (r : Node) (m : Msg) : Node :=
 if r.ro = 3 then r
 else
  let r := r.fall m.t m.f
  if m.i < r.cm then r.say { msg 6 m.f.toNat r.ht with x := m.x,b := true,i := r.cm }
  else
   let k := r.lg.take m.i m.l m.es
   let r := { r with lg := k.1,cm := if k.2.2 = true /\ r.cm < min m.c k.2.1 then min m.c k.2.1 else r.cm }
   r.say { msg 6 m.f.toNat r.ht with x := m.x,b := k.2.2,i := k.2.1 }
def known (r : Node) (c : Int) : Bool := won (1 + (r.others.filter fun k => decide (c <= r.ac k)).length) r.n
def tell (r : Node) : Node := { r with td := r.td ++ r.rd.takeWhile (fun x => r.known x.1),rd := r.rd.dropWhile (fun x => r.known x.1) }
def apped (r : Node) (m : Msg) : Node :=
 if r.ro ≠ 3 then r
 else
  let k := m.f.toNat
  let r := if m.x <= r.cx /\ r.ac k < m.x then { r with ac := put r.ac k m.x } else r
  let i := min m.i r.lg.lastI
  if m.b = false then (({ r with nx := put r.nx k (max (min (r.nx k - 1) (i + 1)) (r.ma k + 1)) } : Node).send k).tell
  else
   let r := { r with ma := put r.ma k (max (r.ma k) i) }
   let r := { r with nx := put r.nx k (max (r.nx k) (r.ma k + 1)) }
   let q := r.settle
   (if q.2 = true then q.1.sendAll else if q.1.nx k <= q.1.lg.lastI then q.1.send k else q.1).tell
def whole (r : Node) (m : Msg) : Node :=
 if r.ro = 3 then r
 else
  let r := r.fall m.t m.f
  let r := if r.cm < m.s.i then
   (let r := if r.lg.at_ m.s.i = some m.s.t then r else { r with lg := ⟨m.s.i,m.s.t,[],0⟩,sn := m.s,kp := true }
    { r with cm := m.s.i }) else r
  r.say { msg 6 m.f.toNat r.ht with b := true,i := r.cm }
def step (r : Node) (m : Msg) : Node :=
 if m.t < r.ht then
  (if m.k = 5 \/ m.k = 7 then r.say (msg 6 m.f.toNat r.ht) else if m.k = 1 \/ m.k = 3 then r.say (msg (m.k + 1) m.f.toNat r.ht) else r)
 else
  let r := if r.ht < m.t /\ m.k ≠ 1 /\ (m.k ≠ 2 \/ m.b = false) then r.fall m.t (if m.k = 5 \/ m.k = 7 then m.f else -1) else r
  if m.k = 1 then r.poll m else if m.k = 2 \/ m.k = 4 then r.said m else if m.k = 3 then r.vote m else if m.k = 5 then r.app m else if m.k = 6 then r.apped m else r.whole m
def propose (r : Node) (d : List UInt8) : Node × Int × Int × Int :=
 if r.ro ≠ 3 then (r,0,0,14) else if 12000 < d.length then (r,0,0,1) else if 1099511627776 <= r.lg.lastI then (r,0,0,4)
 else (({ r with lg := r.grown d } : Node).settle.1.sendAll,r.lg.lastI + 1,r.ht,0)
def read (r : Node) : Node × Int × Int :=
 if r.ro ≠ 3 then (r,0,14) else if r.lg.at_ r.cm ≠ some r.ht then (r,0,7)
 else
  let r := { r with cx := r.cx + 1,rd := r.rd ++ [(r.cx + 1,r.cm)] }
  (r.tell.sendAll,r.cx,0)
def compact (r : Node) (x : Int) (d : List UInt8) : Node × Bool :=
 match r.lg.at_ x with
 | none => (r,false)
 | some t => if x < 1 \/ r.cm < x \/ 50000 < d.length then (r,false) else ({ r with lg := (r.lg.compact x).getD r.lg,sn := ⟨x,t,d⟩ },true)
structure Came where
 ht : Int
 hv : Int
 fr : List Ent
 sn : Ent
 ms : List Msg
 td : List (Int × Int)
def took (r : Node) : Node × Came :=
 ({ r with lg := { r.lg with f := 0 },kp := false,ms := [],td := [] },⟨r.ht,r.hv,r.lg.changed,if r.kp = true then r.sn else noEnt,r.ms,r.td⟩)
def part (r : Node) (a b : Int) : List Ent := r.lg.l.filter fun e => decide (a <= e.i) && decide (e.i <= b)
end Node
structure qej where
 at_ : Nat
 c : Int
 t : Int
 w : Nat
structure Sim where
 n : Nat
 r : Nat -> Node
 ht : Nat -> Int
 hv : Nat -> Int
 sn : Nat -> Ent
 lg : Nat -> List Ent
 net : List Msg
 ldr : List (Int × Nat)
 all : List Ent
 rds : List qej
namespace Sim
def upd {β : Type} (f : Nat -> β) (a : Nat) (v : β) : Nat -> β := fun x => if x = a then v else f x
def made (n : Nat) : Sim := ⟨n,fun k => Node.fresh k n 0 (-1) Node.noEnt [],fun _ => 0,fun _ => -1,fun _ => Node.noEnt,fun _ => [],[],[],[],[]⟩
def digest (l : List Ent) : List UInt8 :=
 let s := l.foldl (fun (s : Nat) e => e.d.foldl (fun (s : Nat) b => (s * 31 + b.toNat) % 4294967296) ((s * 31 + (e.t % 4294967296).toNat) % 4294967296)) (l.length % 4294967296)
 [UInt8.ofNat s,UInt8.ofNat (s / 256),UInt8.ofNat (s / 65536),UInt8.ofNat (s / 16777216)]
def keep (s : Sim) (k : Nat) : Sim × Node.Came :=
 let q := (s.r k).took
 let o := q.2
 let s := { s with r := upd s.r k q.1,ht := upd s.ht k o.ht,hv := upd s.hv k o.hv }
 let s := if 0 < o.sn.i then { s with sn := upd s.sn k o.sn,lg := upd s.lg k (q.1.part (o.sn.i + 1) 1099511627776) }
  else match o.fr with
   | [] => s
   | e :: _ => { s with lg := upd s.lg k ((s.lg k).filter (fun x => decide (x.i < e.i)) ++ o.fr) }
 ({ s with net := s.net ++ o.ms.take (100 - s.net.length) },o)
def lone (s : Sim) (k : Nat) : Sim × Bool :=
 if (s.r k).ro ≠ 3 then (s,true)
 else match s.ldr.find? fun x => decide (x.1 = (s.r k).ht) with
  | some x => (s,decide (x.2 = k))
  | none => ({ s with ldr := s.ldr ++ [((s.r k).ht,k)] },true)
def join (all : List Ent) : List Ent -> Option (List Ent)
 | [] => some all
 | e :: l => if e.i <= all.length then (match all[(e.i - 1).toNat]? with | some x => if oneB e.i e.t e.d x.i x.t x.d = true then join all l else none | none => none) else join (all ++ [e]) l
def agrees (s : Sim) (k : Nat) : Sim × Bool :=
 let x := s.r k
 let l := x.part (x.lg.i + 1) x.cm
 if (l.length : Int) ≠ x.cm - x.lg.i \/ (s.all.length : Int) < x.lg.i then (s,false)
 else match join s.all l with
  | none => (s,false)
  | some all => ({ s with all := all },decide (x.sn.i = x.lg.i) && (decide (x.sn.i = 0) || decide (x.sn.d = digest (all.take x.sn.i.toNat))))
def told (s : Sim) (k : Nat) (l : List (Int × Int)) : Bool :=
 l.all fun y => s.rds.all fun x => !(decide (x.at_ = k) && (decide (x.c = y.1) && (decide (x.t = (s.r k).ht) && decide (y.2 < x.w))))
def look (s : Sim) (k : Nat) : Sim × Bool :=
 let a := s.lone k
 if a.2 = false then a
 else
  let b := a.1.agrees k
  if b.2 = false then b
  else
   let c := b.1.keep k
   (c.1,c.1.told k c.2.td)
structure Move where
 k : Nat
 a : Nat
 x : Nat
 d : List UInt8
def move (s : Sim) (m : Move) : Sim × Bool :=
 let k := m.a % s.n
 if m.k = 0 then ({ s with r := upd s.r k (s.r k).tick } : Sim).look k
 else if m.k = 1 \/ m.k = 2 \/ m.k = 3 then
  (match s.net[m.x % s.net.length]? with
  | none => (s,true)
  | some y =>
    let s := if m.k = 3 then s else { s with net := s.net.eraseIdx (m.x % s.net.length) }
    if y.o < 0 \/ (s.n : Int) <= y.o then (s,false)
    else
     let k := y.o.toNat
     if m.k = 2 then s.look k
     else if (s.r k).heard y = false then (s,false) else ({ s with r := upd s.r k ((s.r k).step y) } : Sim).look k)
 else if m.k = 4 then ({ s with r := upd s.r k ((s.r k).propose m.d).1 } : Sim).look k
 else if m.k = 5 then
  (if Node.can k s.n (s.ht k) (s.hv k) (s.sn k) (s.lg k) = false then (s,false)
   else ({ s with r := upd s.r k (Node.fresh k s.n (s.ht k) (s.hv k) (s.sn k) (s.lg k)) } : Sim).look k)
 else if m.k = 6 then
  (let q := (s.r k).read
   let w := s.all.length
   let s := { s with r := upd s.r k q.1 }
   (if q.2.2 = 0 then { s with rds := s.rds ++ [⟨k,q.2.1,(s.r k).ht,w⟩] } else s).look k)
 else if m.k = 7 then
  (if (s.all.length : Int) < (s.r k).cm then (s,false)
   else
    let q := (s.r k).compact (s.r k).cm (digest (s.all.take (s.r k).cm.toNat))
    let s' := { s with r := upd s.r k q.1 }
    (if q.2 = true then { s' with sn := upd s.sn k q.1.sn,lg := upd s.lg k (q.1.part ((s.r k).cm + 1) 1099511627776) } else s').look k)
 else s.look k
end Sim
end Go.Proofs.Ytmiijlecfiddmaa
set_option linter.unusedVariables false
set_option linter.unusedSimpArgs false
set_option maxRecDepth 100000
set_option maxHeartbeats 3200000
namespace Go.Proofs.Ytmiijlecfiddmaa
open Go.RowKit
theorem qdy (Z : Nat -> Prop) (A : Option Addr) (len cap : Nat) (ls : List Ent) (i t : Int) (w : World) (h : Ents w Z A len cap ls) (hm : len <= maxLen) :
 Calls Try.prog 5 #[.int .i64 i, .int .i64 t, .slice A len cap] w fun e w' => e = .returned (.bool (runB i t ls)) /\ Below w.heap.size w w' := by
 unfold maxLen at hm
 have hll := h.1
 go_enter Try.func5,Try.ntmps5
 go_wp2
 go_loopg [1,7,10] len (fun g tt r ii wr => ∃ k : Nat,k + g = len /\ ii = .int .i64 (k : Int) /\ tt = .int .i64 (qM t ls k) /\ (∀ j,j < k -> qK i t ls j = true) /\ Below w.heap.size w wr)
 case atStart => exact ⟨0,by omega,rfl,rfl,fun j hj => absurd hj (by omega),Below.refl _ _⟩
 case round =>
  obtain ⟨k,hk,rfl,rfl,hall,hb⟩ := hrel
  by_cases hlt : k < len
  · have hlt' : (k : Int) < (len : Int) := by omega
    have hbelow := h.below hb (Nat.le_refl _)
    obtain ⟨g,off,E,c,rfl,hg,x0,x1,x2,hl⟩ := hbelow.at_ k hlt
    have hst := qaW i t ls k (by omega)
    have hnx := qaE i t ls k (by omega)
    have hprev : 0 < k -> wr.cell? ⟨g,off + (k - 1) * 3,none⟩ = some (.int .i64 (qJ i ls k)) /\ 1 <= qJ i ls k /\ qJ i ls k <= 1099511627776 := fun h0 => by
     obtain ⟨g2,off2,E2,c2,e2,_,p0,_,_,_⟩ := hbelow.at_ (k - 1) (by omega)
     injection e2 with e2
     injection e2 with e3 e4
     subst e3 e4
     have hp : qJ i ls k = (ls[k - 1]'(by omega)).i := by
      have := (qaE i t ls (k - 1) (by omega)).1
      rwa [Nat.sub_add_cancel h0] at this
     have hs := hall (k - 1) (by omega)
     rw [qaW i t ls (k - 1) (by omega)] at hs
     simp only [Bool.and_eq_true] at hs
     have hr := (qw _ _ _).1 hs.1
     rw [hp]
     exact ⟨p0,hr.1.1,hr.1.2⟩
    generalize hpT : qM t ls k = T at *
    generalize hpI : qJ i ls k = I at *
    have hI0 : k = 0 -> I = i := fun e => by rw [<- hpI,e]; rfl
    have HNX := Lib.hid hnx.2
    generalize (ls[k]'(by omega)) = a at *
    obtain ⟨ai,at_,ad⟩ := a
    dsimp only at *
    have hR := fun W => qcS ai at_ E ad.length c W
    have hri := qw ai at_ ad.length
    generalize ad.length = n at *
    have HALL := Lib.hid hall
    have HB := Lib.hid hb
    have HK := Lib.hid hk
    cases hb2 : qv ai at_ n with
    | false =>
      rw [hb2] at hR hst
      rw [Bool.false_and] at hst
      have HF := Lib.hid (qW (i := i) (t := t) (l := ls) k (by omega) hst)
      clear hst hnx hprev hpT hpI hI0 hri hall hb hk hbelow h hl
      go_wp2_with fail
      refine (hR _).mono ?_
      rintro e w1 ⟨rfl,hb1⟩
      have hbw : Below w.heap.size w w1 := Below.trans (HB : Below w.heap.size w wr) (Below.mono hb1 (HB : Below w.heap.size w wr).size)
      go_wp2
      go_ret
      exact ⟨by have e : runB i t ls = false := HF; rw [e]; rfl,hbw⟩
    | true =>
      rw [hb2,Bool.true_and] at hst
      rw [hb2] at hR
      have hrr := hri.1 hb2
      have hIr : 0 < k -> 1 <= I /\ I <= 1099511627776 := fun h0 => (hprev h0).2
      have hpc : 0 < k -> wr.cell? ⟨g,off + (k - 1) * 3,none⟩ = some (.int .i64 I) := fun h0 => (hprev h0).1
      clear hprev hpT hpI hri hall hb hk hbelow h hl hnx hb2
      go_wp2_with fail
      refine (hR _).mono ?_
      rintro e w1 ⟨rfl,hb1⟩
      have hbw : Below w.heap.size w w1 := Below.trans (HB : Below w.heap.size w wr) (Below.mono hb1 (HB : Below w.heap.size w wr).size)
      have x0' := (hb1.cell (p := ⟨g,off + k * 3,none⟩) hg).trans x0
      have x1' := (hb1.cell (p := ⟨g,off + k * 3 + 1,none⟩) hg).trans x1
      have hpc' : 0 < k -> w1.cell? ⟨g,off + (k - 1) * 3,none⟩ = some (.int .i64 I) := fun h0 => (hb1.cell (p := ⟨g,off + (k - 1) * 3,none⟩) hg).trans (hpc h0)
      clear hpc hR x0 x1 x2
      by_cases hT : T <= at_
      · have q1 : (at_ < T) = False := eq_false (by omega)
        rw [decide_eq_true hT,Bool.true_and] at hst
        by_cases hk0 : k = 0
        · obtain rfl := hI0 hk0
          subst hk0
          have x0' : w1.cell? ⟨g,off,none⟩ = some (.int .i64 ai) := by simpa using x0'
          by_cases hI : ai = I + 1
          · have HST := Lib.hid (hst.trans (decide_eq_true hI))
            have q2 : (I < 0) = False := eq_false (by omega)
            have q3 : ((1099511627776 : Int) <= I) = False := eq_false (by omega)
            have q2d : decide (I < 0) = false := decide_eq_false (by omega)
            have q3d : decide ((1099511627776 : Int) <= I) = false := decide_eq_false (by omega)
            have q4 : IntKind.i64.wrap (I + 1) = ai := by rw [hI]; exact IntWalk.i64_in _ (by omega)
            clear hst hI hrr hIr hpc' hI0
            go_wp2
            go_big_quiet (fail)
            go_wp2
            go_roundg (gk - 1)
            case measure => have : 0 + gk = len := HK; omega
            case rel => exact ⟨0 + 1,by have : 0 + gk = len := HK; omega,by go_num,by have e : qM t ls (0 + 1) = at_ := HNX; rw [e],fun j hj => by
             rcases Nat.lt_or_ge j 0 with h1 | h1
             · exact (HALL : ∀ j,j < 0 -> qK I t ls j = true) j h1
             · have e : j = 0 := by omega
               rw [e]; exact HST,below_drewN hbw _⟩
          · have HF := Lib.hid (qW (i := I) (t := t) (l := ls) 0 (by omega) (hst.trans (decide_eq_false hI)))
            have q5 : (ai == I + 1) = false := beq_eq_false_iff_ne.2 hI
            have q7 : (ai != I + 1) = true := by simp [hI]
            have q6 : (ai = I + 1) = False := eq_false hI
            clear hst hI hrr hIr hpc' hI0
            by_cases hn : I < 0
            · have q2d : decide (I < 0) = true := decide_eq_true hn
              go_wp2
              go_big_quiet (fail)
              go_wp2
              go_ret
              exact ⟨by have e : runB I t ls = false := HF; rw [e]; rfl,below_drewN hbw _⟩
            · have q2 : (I < 0) = False := eq_false hn
              have q2d : decide (I < 0) = false := decide_eq_false hn
              clear hn
              by_cases hm2 : (1099511627776 : Int) <= I
              · have q3d : decide ((1099511627776 : Int) <= I) = true := decide_eq_true hm2
                go_wp2
                go_big_quiet (fail)
                go_wp2
                go_ret
                exact ⟨by have e : runB I t ls = false := HF; rw [e]; rfl,below_drewN hbw _⟩
              · obtain ⟨J,hJ⟩ : ∃ J,I + 1 = J := ⟨_,rfl⟩
                have q4 : IntKind.i64.wrap (I + 1) = J := by rw [<- hJ]; exact IntWalk.i64_in _ (by have := of_eq_false q2; omega)
                rw [hJ] at q5 q6 q7
                have q3 : ((1099511627776 : Int) <= I) = False := eq_false hm2
                have q3d : decide ((1099511627776 : Int) <= I) = false := decide_eq_false hm2
                clear hm2 hJ
                go_wp2
                go_big_quiet (fail)
                go_wp2
                go_ret
                exact ⟨by have e : runB I t ls = false := HF; rw [e]; rfl,below_drewN hbw _⟩
        · have k1 : (0 : Int) < (k : Int) := by omega
          have k6 : 0 < k := by omega
          have k7 : decide (0 < k) = true := decide_eq_true k6
          have k2 : ((k : Int) == 0) = false := beq_eq_false_iff_ne.2 (by omega)
          have k3 : IntKind.i64.wrap ((k : Int) - 1) = ((k - 1 : Nat) : Int) := by rw [IntWalk.i64_in _ (by omega)]; omega
          have hp := hpc' (by omega)
          have hI1 := hIr (by omega)
          obtain ⟨J,hJ⟩ : ∃ J,I + 1 = J := ⟨_,rfl⟩
          have q4 : IntKind.i64.wrap (I + 1) = J := by rw [<- hJ]; exact IntWalk.i64_in _ (by omega)
          rw [hJ] at hst
          have k4 : ((k - 1 : Nat) : Int) < (len : Int) := by omega
          have k5 : ((k : Int) = 0) = False := eq_false (by omega)
          generalize k - 1 = k' at *
          clear hJ
          by_cases hI : ai = J
          · have HST := Lib.hid (hst.trans (decide_eq_true hI))
            subst hI
            clear hst hrr hIr hpc' hI0 hk0
            go_wp2
            go_big_quiet (fail)
            go_wp2
            go_roundg (gk - 1)
            case measure => have : k + gk = len := HK; omega
            case rel => exact ⟨k + 1,by have : k + gk = len := HK; omega,by go_num,by have e : qM t ls (k + 1) = at_ := HNX; rw [e],fun j hj => by
             rcases Nat.lt_or_ge j k with h1 | h1
             · exact (HALL : ∀ j,j < k -> qK i t ls j = true) j h1
             · have e : j = k := by omega
               rw [e]; exact HST,below_drewN hbw _⟩
          · have HF := Lib.hid (qW (i := i) (t := t) (l := ls) k (by omega) (hst.trans (decide_eq_false hI)))
            have q5 : (ai == J) = false := beq_eq_false_iff_ne.2 hI
            have q7 : (ai != J) = true := by simp [hI]
            have q6 : (ai = J) = False := eq_false hI
            clear hst hrr hIr hpc' hI0 hk0 hI
            go_wp2
            go_big_quiet (fail)
            go_wp2
            go_ret
            exact ⟨by have e : runB i t ls = false := HF; rw [e]; rfl,below_drewN hbw _⟩
      · have q1 : at_ < T := by omega
        have HF := Lib.hid (qW (i := i) (t := t) (l := ls) k (by omega) (by rw [hst,decide_eq_false hT,Bool.false_and]))
        clear hst hT hrr hIr hpc' hI0
        go_wp2
        go_ret
        exact ⟨by have e : runB i t ls = false := HF; rw [e]; rfl,hbw⟩
  · obtain rfl : k = len := by omega
    have hdec : decide ((k : Int) < (k : Int)) = false := decide_eq_false (by omega)
    have HT := Lib.hid (qbF (i := i) (t := t) (l := ls) (fun j hj => hall j (by omega)))
    clear h hall hk hm
    go_wp2
    go_ret
    exact ⟨by have e : runB i t ls = true := HT; rw [e]; rfl,hb⟩
end Go.Proofs.Ytmiijlecfiddmaa
set_option linter.unusedVariables false
set_option linter.unusedSimpArgs false
set_option maxRecDepth 100000
set_option maxHeartbeats 200000
namespace Go.Proofs.Ytmiijlecfiddmaa
open Go.RowKit
section
variable {P : Program} {fn : Func} {p q u : Tmp} {T : TypeId} {W : World} {n : Nat} {cs : Array Value} {fr : Nat × Nat} {d : TypeDesc} {tmps : Array Value}
theorem qat (h : fn.results = #[.cell p T]) (h1 : tmps.getD p undef = .pointer (some ⟨n,0,none⟩)) (hW : W.heap[n]? = some (.cells cs T fr)) (hu : P.underlying T = some d)
 (hd : (match d with | .struct _ | .array _ _ => true | _ => false) = true) (hi : (P.info? T).map (·.size) = some cs.size) : (results fn tmps).run P W = .ok (.agg cs) W :=
 results_cell_row h tmps W n T cs fr d h1 hW hu hd hi
theorem qbz (h : fn.results = #[.cell p T, .tmp u]) (h1 : tmps.getD p undef = .pointer (some ⟨n,0,none⟩)) (hW : W.heap[n]? = some (.cells cs T fr)) (hu : P.underlying T = some d)
 (hd : (match d with | .struct _ | .array _ _ => true | _ => false) = true) (hi : (P.info? T).map (·.size) = some cs.size) : (results fn tmps).run P W = .ok (.tuple #[.agg cs,tmps.getD u undef]) W := by
 rw [results_cell_tmp h,h1]
 simp [asAddr,run_loadVar_row W n T T cs fr d hW hu hd hi]
end
theorem row2 {w : World} {g : Nat} {v0 v1 : Value} {T : TypeId} (h : w.heap[g]? = some (.cells #[v0,v1] T)) : (w.cell? ⟨g,0,none⟩ = some v0 /\ w.cell? ⟨g,1,none⟩ = some v1) /\ (w.frozen? ⟨g,0,none⟩ = false /\ w.frozen? ⟨g,1,none⟩ = false) := by
 refine ⟨⟨?_,?_⟩,⟨?_,?_⟩⟩ <;> simp [World.cell?,World.frozen?,h]
theorem row3 {w : World} {g : Nat} {v0 v1 v2 : Value} {T : TypeId} (h : w.heap[g]? = some (.cells #[v0,v1,v2] T)) : (w.cell? ⟨g,0,none⟩ = some v0 /\ w.cell? ⟨g,1,none⟩ = some v1 /\ w.cell? ⟨g,2,none⟩ = some v2) /\ (w.frozen? ⟨g,0,none⟩ = false /\ w.frozen? ⟨g,1,none⟩ = false /\ w.frozen? ⟨g,2,none⟩ = false) := by
 refine ⟨⟨?_,?_,?_⟩,⟨?_,?_,?_⟩⟩ <;> simp [World.cell?,World.frozen?,h]
theorem row4 {w : World} {g : Nat} {v0 v1 v2 v3 : Value} {T : TypeId} (h : w.heap[g]? = some (.cells #[v0,v1,v2,v3] T)) : (w.cell? ⟨g,0,none⟩ = some v0 /\ w.cell? ⟨g,1,none⟩ = some v1 /\ w.cell? ⟨g,2,none⟩ = some v2 /\ w.cell? ⟨g,3,none⟩ = some v3) /\ (w.frozen? ⟨g,0,none⟩ = false /\ w.frozen? ⟨g,1,none⟩ = false /\ w.frozen? ⟨g,2,none⟩ = false /\ w.frozen? ⟨g,3,none⟩ = false) := by
 refine ⟨⟨?_,?_,?_,?_⟩,⟨?_,?_,?_,?_⟩⟩ <;> simp [World.cell?,World.frozen?,h]
theorem qbf (X : World) (n : Nat) (a b c a0 b0 c0 : Value) (T : TypeId) (h : X.heap[n]? = some (.cells #[a0,b0,c0] T)) : (((X.setCell ⟨n,0,none⟩ a).setCell ⟨n,1,none⟩ b).setCell ⟨n,2,none⟩ c).heap[n]? = some (.cells #[a,b,c] T) := by
 simp only [World.setCell,Array.getElem?_modify,if_true,h,Option.map_some]
 simp
end Go.Proofs.Ytmiijlecfiddmaa
