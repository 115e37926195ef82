/- A cluster: a move, whatever its kind. -/
import Derived.Test.YtmiijlecfiddmaaGreatNNM44
import Derived.Test.YtmiijlecfiddmaaGreatNNM45
import Derived.Test.YtmiijlecfiddmaaGreatNNM01
import Derived.Test.YtmiijlecfiddmaaGreatNNM37
import Derived.Test.YtmiijlecfiddmaaGreatNNM31
import Derived.Test.YtmiijlecfiddmaaGreatRows
import Derived.WalkKit
import Derived.ProofKit
import Derived.OpenShut
import Derived.Carry
set_option linter.unusedVariables false
set_option linter.unusedSimpArgs false
set_option maxRecDepth 100000
set_option maxHeartbeats 200000
namespace Go.Proofs.YtmiijlecfiddmaaGreat
open Go.RowKit
namespace RegW
theorem moveP_any {w : World} {S : Sim} {L : SimL} {lab : Nat -> Nat} (h : qh w S L lab) (kk a x : Int) (D : Option Addr) (d : List UInt8) (dc : Nat) (hkk : 0 <= kk /\ kk < 256) (ha : 0 <= a /\ a < 256) (hx : 0 <= x /\ x < 256) (hc : dc <= maxLen) (hD : Lies w D d.length dc d) (hz : 0 < d.length -> ∀ g o,D = some ⟨g,o,none⟩ -> lab g = 0) (hn : 1 <= S.n /\ S.n <= 3)
 (able : ∀ k,k < S.n -> Able (S.r k)) (hnl : S.net.length <= 400000) (hal : S.all.length <= 400000) (hdl : ∀ e ∈ S.all,e.d.length <= 1000000) (hlg : ∀ k,k < S.n -> (S.lg k).length <= 1000000)
 (f : (0 < S.net.length \/ ¬ (kk = 1 \/ kk = 2 \/ kk = 3)) -> Fine (qq S ⟨kk.toNat,a.toNat,x.toNat,d⟩).1 (qq S ⟨kk.toNat,a.toNat,x.toNat,d⟩).2) (yes : (S.move ⟨kk.toNat,a.toNat,x.toNat,d⟩).2 = true) :
 Calls Tryz.prog 20 #[ptrV L.g, .agg #[.int .u8 kk, .int .u8 a, .int .u8 x, .slice D d.length dc]] w fun e w' => e = .returned (.bool true) /\ Went w w' (S.move ⟨kk.toNat,a.toNat,x.toNat,d⟩).1 L lab := by
 obtain ⟨k,hk⟩ : ∃ k,k = a.toNat % S.n := ⟨_,rfl⟩
 have hkn : k < S.n := by rw [hk]; exact Nat.mod_lt _ (by omega)
 have hcase : kk = 0 \/ kk = 1 \/ kk = 2 \/ kk = 3 \/ kk = 4 \/ kk = 5 \/ kk = 6 \/ kk = 7 \/ 8 <= kk := by omega
 have hnet : 0 < S.net.length -> ∃ y,S.net[x.toNat % S.net.length]? = some y := fun h0 => ⟨_,List.getElem?_eq_getElem (Nat.mod_lt _ h0)⟩
 rcases hcase with rfl | rfl | rfl | rfl | rfl | rfl | rfl | rfl | h8
 · have e : S.move ⟨(0 : Int).toNat,a.toNat,x.toNat,d⟩ = ({ S with r := Sim.upd S.r k (S.r k).tick } : Sim).look k := by rw [hk]; rfl
   have ea : qq S ⟨(0 : Int).toNat,a.toNat,x.toNat,d⟩ = ({ S with r := Sim.upd S.r k (S.r k).tick },k) := by rw [hk]; rfl
   rw [e] at yes ⊢;rw [ea] at f;exact qjR h a x D d dc ha hn hk (able k hkn) (f (.inr (by omega))) yes
 · rcases Nat.eq_zero_or_pos S.net.length with h0 | h0
   · have e : S.move ⟨(1 : Int).toNat,a.toNat,x.toNat,d⟩ = (S,true) := by
      show (match S.net[x.toNat % S.net.length]? with | none => (S,true) | some y => _) = _;rw [List.length_eq_zero_iff.1 h0]
      rfl
     rw [e];exact qiE h a x D d dc ha hn h0
   · obtain ⟨y,hy⟩ := hnet h0
     have e : S.move ⟨(1 : Int).toNat,a.toNat,x.toNat,d⟩ = (if y.o < 0 \/ (S.n : Int) <= y.o then ({ S with net := S.net.eraseIdx (x.toNat % S.net.length) },false) else if (S.r y.o.toNat).heard y = false then ({ S with net := S.net.eraseIdx (x.toNat % S.net.length) },false) else ({ S with net := S.net.eraseIdx (x.toNat % S.net.length),r := Sim.upd S.r y.o.toNat ((S.r y.o.toNat).step y) } : Sim).look y.o.toNat) := by
      show (match S.net[x.toNat % S.net.length]? with | none => (S,true) | some y => _) = _;rw [hy]
      rfl
     have ea : qq S ⟨(1 : Int).toNat,a.toNat,x.toNat,d⟩ = ({ S with net := S.net.eraseIdx (x.toNat % S.net.length),r := Sim.upd S.r y.o.toNat ((S.r y.o.toNat).step y) },y.o.toNat) := by
      show (match S.net[x.toNat % S.net.length]? with | none => _ | some y => _) = _;rw [hy]
      rfl
     rw [e] at yes ⊢;rw [ea] at f
     by_cases h1 : y.o < 0 \/ (S.n : Int) <= y.o
     · rw [if_pos h1] at yes;cases yes
     · rw [if_neg h1] at yes ⊢
       by_cases h2 : (S.r y.o.toNat).heard y = false
       · rw [if_pos h2] at yes;cases yes
       · rw [if_neg h2] at yes ⊢;exact qiC h a x D d dc ha hx hn rfl hy hnl (by omega) (f (.inl h0)) yes (able _ (by omega)) (by simpa using h2)
 · rcases Nat.eq_zero_or_pos S.net.length with h0 | h0
   · have e : S.move ⟨(2 : Int).toNat,a.toNat,x.toNat,d⟩ = (S,true) := by
      show (match S.net[x.toNat % S.net.length]? with | none => (S,true) | some y => _) = _;rw [List.length_eq_zero_iff.1 h0]
      rfl
     rw [e];exact qiF h a x D d dc ha hn h0
   · obtain ⟨y,hy⟩ := hnet h0
     have e : S.move ⟨(2 : Int).toNat,a.toNat,x.toNat,d⟩ = (if y.o < 0 \/ (S.n : Int) <= y.o then ({ S with net := S.net.eraseIdx (x.toNat % S.net.length) },false) else ({ S with net := S.net.eraseIdx (x.toNat % S.net.length) } : Sim).look y.o.toNat) := by
      show (match S.net[x.toNat % S.net.length]? with | none => (S,true) | some y => _) = _;rw [hy]
      rfl
     have ea : qq S ⟨(2 : Int).toNat,a.toNat,x.toNat,d⟩ = ({ S with net := S.net.eraseIdx (x.toNat % S.net.length) },y.o.toNat) := by
      show (match S.net[x.toNat % S.net.length]? with | none => _ | some y => _) = _;rw [hy]
      rfl
     rw [e] at yes ⊢;rw [ea] at f
     by_cases h1 : y.o < 0 \/ (S.n : Int) <= y.o
     · rw [if_pos h1] at yes;cases yes
     · rw [if_neg h1] at yes ⊢;exact qiB h a x D d dc ha hx hn rfl hy hnl (by omega) (f (.inl h0)) yes
 · rcases Nat.eq_zero_or_pos S.net.length with h0 | h0
   · have e : S.move ⟨(3 : Int).toNat,a.toNat,x.toNat,d⟩ = (S,true) := by
      show (match S.net[x.toNat % S.net.length]? with | none => (S,true) | some y => _) = _;rw [List.length_eq_zero_iff.1 h0]
      rfl
     rw [e];exact qiG h a x D d dc ha hn h0
   · obtain ⟨y,hy⟩ := hnet h0
     have e : S.move ⟨(3 : Int).toNat,a.toNat,x.toNat,d⟩ = (if y.o < 0 \/ (S.n : Int) <= y.o then (S,false) else if (S.r y.o.toNat).heard y = false then (S,false) else ({ S with r := Sim.upd S.r y.o.toNat ((S.r y.o.toNat).step y) } : Sim).look y.o.toNat) := by
      show (match S.net[x.toNat % S.net.length]? with | none => (S,true) | some y => _) = _;rw [hy]
      rfl
     have ea : qq S ⟨(3 : Int).toNat,a.toNat,x.toNat,d⟩ = ({ S with r := Sim.upd S.r y.o.toNat ((S.r y.o.toNat).step y) },y.o.toNat) := by
      show (match S.net[x.toNat % S.net.length]? with | none => _ | some y => _) = _;rw [hy]
      rfl
     rw [e] at yes ⊢;rw [ea] at f
     by_cases h1 : y.o < 0 \/ (S.n : Int) <= y.o
     · rw [if_pos h1] at yes;cases yes
     · rw [if_neg h1] at yes ⊢
       by_cases h2 : (S.r y.o.toNat).heard y = false
       · rw [if_pos h2] at yes;cases yes
       · rw [if_neg h2] at yes ⊢;exact qiD h a x D d dc ha hx hn rfl hy hnl (by omega) (f (.inl h0)) yes (able _ (by omega)) (by simpa using h2)
 · have e : S.move ⟨(4 : Int).toNat,a.toNat,x.toNat,d⟩ = ({ S with r := Sim.upd S.r k ((S.r k).propose d).1 } : Sim).look k := by rw [hk]; rfl
   have ea : qq S ⟨(4 : Int).toNat,a.toNat,x.toNat,d⟩ = ({ S with r := Sim.upd S.r k ((S.r k).propose d).1 },k) := by rw [hk]; rfl
   rw [e] at yes ⊢;rw [ea] at f;exact qgi h a x D d dc ha hn hk (able k hkn) hc hD hz (f (.inr (by omega))) yes
 · have e : S.move ⟨(5 : Int).toNat,a.toNat,x.toNat,d⟩ = (if Node.can k S.n (S.ht k) (S.hv k) (S.sn k) (S.lg k) = false then (S,false) else ({ S with r := Sim.upd S.r k (Node.fresh k S.n (S.ht k) (S.hv k) (S.sn k) (S.lg k)) } : Sim).look k) := by rw [hk]; rfl
   have ea : qq S ⟨(5 : Int).toNat,a.toNat,x.toNat,d⟩ = ({ S with r := Sim.upd S.r k (Node.fresh k S.n (S.ht k) (S.hv k) (S.sn k) (S.lg k)) },k) := by rw [hk]; rfl
   rw [e] at yes ⊢;rw [ea] at f
   by_cases h1 : Node.can k S.n (S.ht k) (S.hv k) (S.sn k) (S.lg k) = false
   · rw [if_pos h1] at yes;cases yes
   · rw [if_neg h1] at yes ⊢;exact qiA h a x D d dc ha hn hk (by simpa using h1) (hlg k hkn) (f (.inr (by omega))) yes
 · by_cases h1 : (S.r k).read.2.2 = 0
   · have e : S.move ⟨(6 : Int).toNat,a.toNat,x.toNat,d⟩ = ({ S with r := Sim.upd S.r k (S.r k).read.1,rds := S.rds ++ [⟨k,(S.r k).read.2.1,(S.r k).read.1.ht,S.all.length⟩] } : Sim).look k := by
      subst hk;show Sim.look (if (S.r (a.toNat % S.n)).read.2.2 = 0 then _ else _) _ = _;rw [if_pos h1];dsimp only;rw [qm]
     have ea : qq S ⟨(6 : Int).toNat,a.toNat,x.toNat,d⟩ = ({ S with r := Sim.upd S.r k (S.r k).read.1,rds := S.rds ++ [⟨k,(S.r k).read.2.1,(S.r k).read.1.ht,S.all.length⟩] },k) := by
      subst hk;show (if (S.r (a.toNat % S.n)).read.2.2 = 0 then _ else _,_) = _;rw [if_pos h1];dsimp only;rw [qm]
     rw [e] at yes ⊢;rw [ea] at f;exact qgj h a x D d dc ha hn hk (able k hkn) h1 (f (.inr (by omega))) yes
   · have e : S.move ⟨(6 : Int).toNat,a.toNat,x.toNat,d⟩ = ({ S with r := Sim.upd S.r k (S.r k).read.1 } : Sim).look k := by
      subst hk;show Sim.look (if (S.r (a.toNat % S.n)).read.2.2 = 0 then _ else _) _ = _;rw [if_neg h1]
     have ea : qq S ⟨(6 : Int).toNat,a.toNat,x.toNat,d⟩ = ({ S with r := Sim.upd S.r k (S.r k).read.1 },k) := by
      subst hk;show (if (S.r (a.toNat % S.n)).read.2.2 = 0 then _ else _,_) = _;rw [if_neg h1]
     rw [e] at yes ⊢;rw [ea] at f;exact qhf h a x D d dc ha hn hk (able k hkn) h1 (f (.inr (by omega))) yes
 · have A := able k hkn;obtain ⟨i,hi⟩ : ∃ i : Nat,(S.r k).cm = (i : Int) := ⟨(S.r k).cm.toNat,by have := A.cm; omega⟩;obtain ⟨⟨N1,ok⟩,hcm⟩ : ∃ q,(S.r k).compact (i : Int) (Sim.digest (S.all.take i)) = q := ⟨_,rfl⟩
   have e : S.move ⟨(7 : Int).toNat,a.toNat,x.toNat,d⟩ = (if (S.all.length : Int) < (S.r k).cm then (S,false) else (if ok = true then ({ S with r := Sim.upd S.r k N1,sn := Sim.upd S.sn k N1.sn,lg := Sim.upd S.lg k (N1.part ((S.r k).cm + 1) 1099511627776) } : Sim) else { S with r := Sim.upd S.r k N1 }).look k) := by
    have hcm2 : (S.r k).compact (S.r k).cm (Sim.digest (S.all.take (S.r k).cm.toNat)) = (N1,ok) := by rw [hi]; exact hcm
    subst hk;show (if (S.all.length : Int) < (S.r (a.toNat % S.n)).cm then (S,false) else Sim.look (if ((S.r (a.toNat % S.n)).compact (S.r (a.toNat % S.n)).cm (Sim.digest (S.all.take (S.r (a.toNat % S.n)).cm.toNat))).2 = true then _ else _) _) = _;rw [hcm2]
   have ea : qq S ⟨(7 : Int).toNat,a.toNat,x.toNat,d⟩ = (if ok = true then ({ S with r := Sim.upd S.r k N1,sn := Sim.upd S.sn k N1.sn,lg := Sim.upd S.lg k (N1.part ((S.r k).cm + 1) 1099511627776) } : Sim) else { S with r := Sim.upd S.r k N1 },k) := by
    have hcm2 : (S.r k).compact (S.r k).cm (Sim.digest (S.all.take (S.r k).cm.toNat)) = (N1,ok) := by rw [hi]; exact hcm
    subst hk;show (if ((S.r (a.toNat % S.n)).compact (S.r (a.toNat % S.n)).cm (Sim.digest (S.all.take (S.r (a.toNat % S.n)).cm.toNat))).2 = true then _ else _,_) = _;rw [hcm2]
   rw [e] at yes ⊢;rw [ea] at f
   by_cases h1 : (S.all.length : Int) < (S.r k).cm
   · rw [if_pos h1] at yes;cases yes
   · rw [if_neg h1] at yes ⊢
     cases ok with
     | true =>
       rw [if_pos rfl] at yes f ⊢;rw [hi] at yes f ⊢;exact qdZ h a x D d dc ha hn hk rfl hi (by omega) hal hdl A.good (by have := A.len; omega) A.n.1 hcm (f (.inr (by omega))) yes
     | false =>
       rw [if_neg (by decide)] at yes f ⊢;exact qeJ h a x D d dc ha hn hk rfl hi (by omega) hal hdl A.good (by have := A.len; omega) A.n.1 hcm (f (.inr (by omega))) yes
 · have hkn8 : 8 <= kk.toNat := by omega
   have e : S.move ⟨kk.toNat,a.toNat,x.toNat,d⟩ = S.look k := by
    rw [hk];unfold Sim.move;dsimp only;rw [if_neg (by omega),if_neg (by omega),if_neg (by omega),if_neg (by omega),if_neg (by omega),if_neg (by omega)]
   have ea : qq S ⟨kk.toNat,a.toNat,x.toNat,d⟩ = (S,k) := by
    rw [hk];unfold qq;dsimp only;rw [if_neg (by omega),if_neg (by omega),if_neg (by omega),if_neg (by omega),if_neg (by omega),if_neg (by omega)]
   rw [e] at yes ⊢;rw [ea] at f;exact qjS h a x D d dc ha hn hk hkk (by omega) (by omega) (by omega) (by omega) (by omega) (by omega) (by omega) (by omega) (f (.inr (by omega))) yes
end RegW
end Go.Proofs.YtmiijlecfiddmaaGreat
set_option linter.unusedVariables false
set_option linter.unusedSimpArgs false
set_option maxRecDepth 100000
set_option maxHeartbeats 200000
namespace Go.Proofs.YtmiijlecfiddmaaGreat
structure Tame (K : Nat) (s : Sim) : Prop where
 node : ∀ k,k < s.n -> (s.r k).Idle /\ (s.r k).Bnd /\ (s.r k).Small K
 net : s.net.length <= 100
 ldr : s.ldr.length <= K
 rds : s.rds.length <= K
theorem qi4 (n : Nat) : Tame 0 (Sim.made n) :=
 ⟨fun k _ => ⟨Node.idle_fresh _ _ _ _ _ _,Node.bnd_fresh _ _ _ _ _ _,Node.small_fresh _ _ _ _ _ _ _⟩,Nat.zero_le _,nlq,nlq⟩
theorem Tame.upd {K : Nat} {s : Sim} (h : Tame K s) {k : Nat} {r : Node} (hr : r.Idle /\ r.Bnd /\ r.Small K) : Tame K { s with r := Sim.upd s.r k r } :=
 ⟨fun j hj => by
   show (Sim.upd s.r k r j).Idle /\ (Sim.upd s.r k r j).Bnd /\ (Sim.upd s.r k r j).Small K
   by_cases hjk : j = k
   · subst hjk;rw [qm];exact hr
   · rw [upd_ne _ _ hjk]
     exact h.node j hj,h.net,h.ldr,h.rds⟩
theorem Tame.same {K : Nat} {s s' : Sim} (h : Tame K s) (e0 : s'.n = s.n) (e1 : s'.r = s.r) (e2 : s'.net.length <= 100) (e3 : s'.ldr.length <= K) (e4 : s'.rds.length <= K) : Tame K s' :=
 ⟨by rw [e0,e1]; exact h.node,e2,e3,e4⟩
theorem Tame.mono {K K' : Nat} {s : Sim} (h : Tame K s) (hk : K <= K') : Tame K' s :=
 ⟨fun k hkn => ⟨(h.node k hkn).1,(h.node k hkn).2.1,(h.node k hkn).2.2.mono hk⟩,h.net,Nat.le_trans h.ldr hk,Nat.le_trans h.rds hk⟩
theorem qi5 {K : Nat} {s : Sim} (h : Tame K s) (k : Nat) : Tame (K + 1) (s.lone k).1 := by
 have h1 := h.mono (Nat.le_succ K);unfold Sim.lone
 split
 · exact h1
 · split
   · exact h1
   · refine h1.same rfl rfl h.net ?_ h1.rds;show (s.ldr ++ [_]).length <= K + 1;rw [List.length_append];have := h.ldr;show s.ldr.length + 1 <= K + 1;omega
theorem qgo {K : Nat} {s : Sim} (h : Tame K s) (k : Nat) : Tame K (s.agrees k).1 := by
 unfold Sim.agrees;dsimp only
 split
 · exact h
 · split
   · exact h
   · exact h.same rfl rfl h.net h.ldr h.rds
theorem qi6 {K : Nat} {s : Sim} (h : Tame K s) {k : Nat} (hk : k < s.n) : Tame K (s.keep k).1 := by
 have hr := h.node k hk;have h1 := h.upd (k := k) (r := (s.r k).took.1) ⟨Node.idle_took hr.1,Node.bnd_took hr.2.1,Node.small_took hr.2.2⟩;have hks := qcG s k
 have hnet : (s.keep k).1.net.length <= 100 := by
  have hn : ∀ (x : Sim),x.net = s.net -> (x.net ++ (s.r k).took.2.ms.take (100 - x.net.length)).length <= 100 := fun x e => by
   rw [e,List.length_append,List.length_take];have := h.net;omega
  unfold Sim.keep;dsimp only
  split
  · exact hn s rfl
  · split
    · exact hn s rfl
    · exact hn s rfl
 have hl : (s.keep k).1.ldr = s.ldr := by
  unfold Sim.keep;dsimp only
  split
  · rfl
  · split <;> rfl
 exact h1.same hks.2.2.1 hks.1 hnet (by rw [hl]; exact h.ldr) (by rw [hks.2.1]; exact h.rds)
theorem qi7 {K : Nat} {s : Sim} (h : Tame K s) {k : Nat} (hk : k < s.n) : Tame (K + 1) (s.look k).1 := by
 have h1 := qi5 h k;have h2 := qgo h1 k;obtain ⟨l,hl⟩ := qcH s k
 have hn1 : (s.lone k).1.n = s.n := by rw [hl]
 have hn2 : ((s.lone k).1.agrees k).1.n = s.n := by
  rw [<- hn1];unfold Sim.agrees;dsimp only
  split
  · rfl
  · split <;> rfl
 unfold Sim.look;dsimp only
 split
 · exact h1
 · split
   · exact h2
   · exact qi6 h2 (by rw [hn2]; exact hk)
theorem qeA {n : Nat} {KI : Int} {w : W} {s : Sim} (O : qG n KI w s) {k : Nat} (hk : k < n) : 0 <= (s.r k).lg.lastI /\ (s.r k).lg.lastI <= 1099511627776 := by
 have h1 := (O.nd k hk).fu.lastI;have h2 := O.ok.lk k;have h3 := O.ok.kk;omega
theorem qht {K : Nat} {s : Sim} (h : Tame K s) (k n : Nat) (ht hv : Int) (x : Ent) (l : List Ent) : Tame K { s with r := Sim.upd s.r k (Node.fresh k n ht hv x l) } :=
 h.upd ⟨Node.idle_fresh _ _ _ _ _ _,Node.bnd_fresh _ _ _ _ _ _,Node.small_fresh _ _ _ _ _ _ _⟩
theorem qdL {n : Nat} {KI : Int} {w : W} {K : Nat} {s : Sim} (O : qG n KI w s) (h : Tame K s) (m : Sim.Move) (hi : ∀ y ∈ s.net,0 <= y.i) : Tame (K + 1) (qq s m).1 := by
 have hn := O.nn;have hkn : m.a % s.n < s.n := Nat.mod_lt _ (by omega);have h1 := h.mono (Nat.le_succ K);have hk := h.node _ hkn;have hk1 := h1.node _ hkn;have hl := qeA O (k := m.a % s.n) (by omega);unfold qq;dsimp only
 split
 · exact h1.upd ⟨Node.idle_tick hk.1,Node.bnd_tick hk.2.1 hl,Node.small_tick hk.2.2⟩
 · split
   · split
     · exact h1
     · rename_i y hy;have hmem := List.mem_of_getElem? hy;have ho := (O.net y hmem).o
       have hyn : y.o.toNat < s.n := by omega
       have hy1 := h1.node _ hyn;have hyl := qeA O (k := y.o.toNat) (by omega)
       have he : (s.net.eraseIdx (m.x % s.net.length)).length <= 100 := by
        have h2 := List.length_eraseIdx_le s.net (m.x % s.net.length);have h3 := h.net;omega
       have hs : ∀ x : Sim,x.n = s.n -> x.r = s.r -> x.net.length <= 100 -> x.ldr = s.ldr -> x.rds = s.rds -> Tame (K + 1) x := fun x a b c d e => h1.same a b c (by rw [d]; exact h1.ldr) (by rw [e]; exact h1.rds)
       split
       · split
         · exact h1
         · exact hs _ rfl rfl he rfl rfl
       · split
         · exact h1.upd ⟨Node.idle_step hy1.1 y,Node.bnd_step hy1.2.1 hyl y (hi y hmem),Node.small_step hy1.2.2 y⟩
         · exact (hs { s with net := s.net.eraseIdx (m.x % s.net.length) } rfl rfl he rfl rfl).upd ⟨Node.idle_step hy1.1 y,Node.bnd_step hy1.2.1 hyl y (hi y hmem),Node.small_step hy1.2.2 y⟩
   · split
     · exact h1.upd ⟨Node.idle_propose hk1.1 _,Node.bnd_propose hk1.2.1 _,Node.small_propose hk1.2.2 _⟩
     · split
       · exact qht h1 _ _ _ _ _ _
       · split
         · have h2 : Tame (K + 1) { s with r := Sim.upd s.r (m.a % s.n) (s.r (m.a % s.n)).read.1 } := h1.upd ⟨Node.idle_read hk.1,Node.bnd_read hk.2.1,Node.small_read hk.2.2⟩
           split
           · refine h2.same rfl rfl h.net h1.ldr ?_;show (s.rds ++ [_]).length <= K + 1;rw [List.length_append];have := h.rds;show s.rds.length + 1 <= K + 1;omega
           · exact h2
         · split
           · have h2 : ∀ x d,Tame (K + 1) { s with r := Sim.upd s.r (m.a % s.n) ((s.r (m.a % s.n)).compact x d).1 } := fun x d => h1.upd ⟨Node.idle_compact hk1.1 _ _,Node.bnd_compact hk1.2.1 _ _,Node.small_compact hk1.2.2 _ _⟩
             split
             · exact (h2 _ _).same rfl rfl h.net h1.ldr h1.rds
             · exact h2 _ _
           · exact h1
end Go.Proofs.YtmiijlecfiddmaaGreat
set_option linter.unusedVariables false
set_option linter.unusedSimpArgs false
set_option maxRecDepth 100000
set_option maxHeartbeats 200000
namespace Go.Proofs.YtmiijlecfiddmaaGreat
theorem qdM {s : Sim} {m : Sim.Move} (yes : (s.move m).2 = true) : (s.move m = (s,true) /\ s.net.length = 0 /\ (m.k = 1 \/ m.k = 2 \/ m.k = 3)) \/ s.move m = (qq s m).1.look (qq s m).2 := by
 by_cases h0 : m.k = 0
 · right
   unfold Sim.move qq;dsimp only;rw [if_pos h0,if_pos h0]
 by_cases h1 : m.k = 1 \/ m.k = 2 \/ m.k = 3
 · unfold Sim.move qq at *;dsimp only at *;rw [if_neg h0,if_pos h1] at yes ⊢;rw [if_neg h0,if_pos h1]
   cases hy : s.net[m.x % s.net.length]? with
   | none =>
     refine .inl ⟨rfl,?_,h1⟩;rcases Nat.eq_zero_or_pos s.net.length with h0 | h0
     · exact h0
     · have h2 := List.getElem?_eq_none_iff.1 hy;have h3 := Nat.mod_lt m.x h0;omega
   | some y =>
     right
     rw [hy] at yes;dsimp only at yes ⊢;have hX : ∃ X : Sim,(if m.k = 3 then s else { s with net := s.net.eraseIdx (m.x % s.net.length) }) = X := ⟨_,rfl⟩;obtain ⟨X,hX⟩ := hX;simp only [hX] at yes ⊢
     split at yes
     · cases yes
     · rename_i h2;rw [if_neg h2]
       by_cases h3 : m.k = 2
       · rw [if_pos h3,if_pos h3]
       · rw [if_neg h3] at yes ⊢;rw [if_neg h3]
         split at yes
         · cases yes
         · rename_i h4;rw [if_neg h4]
 by_cases h4 : m.k = 4
 · right
   unfold Sim.move qq;dsimp only;rw [if_neg h0,if_neg h1,if_pos h4,if_neg h0,if_neg h1,if_pos h4]
 by_cases h5 : m.k = 5
 · right
   unfold Sim.move qq at *;dsimp only at *;rw [if_neg h0,if_neg h1,if_neg h4,if_pos h5] at yes ⊢;rw [if_neg h0,if_neg h1,if_neg h4,if_pos h5]
   split at yes
   · cases yes
   · rename_i h6;rw [if_neg h6]
 by_cases h6 : m.k = 6
 · right
   unfold Sim.move qq;dsimp only;rw [if_neg h0,if_neg h1,if_neg h4,if_neg h5,if_pos h6,if_neg h0,if_neg h1,if_neg h4,if_neg h5,if_pos h6]
 by_cases h7 : m.k = 7
 · right
   unfold Sim.move qq at *;dsimp only at *;rw [if_neg h0,if_neg h1,if_neg h4,if_neg h5,if_neg h6,if_pos h7] at yes ⊢;rw [if_neg h0,if_neg h1,if_neg h4,if_neg h5,if_neg h6,if_pos h7]
   split at yes
   · cases yes
   · rename_i h8;rw [if_neg h8]
 · right
   unfold Sim.move qq;dsimp only;rw [if_neg h0,if_neg h1,if_neg h4,if_neg h5,if_neg h6,if_neg h7,if_neg h0,if_neg h1,if_neg h4,if_neg h5,if_neg h6,if_neg h7]
theorem qgI (s : Sim) (m : Sim.Move) : (qq s m).1.n = s.n := by
 unfold qq;dsimp only
 repeat' split
 all_goals rfl
theorem qf8 {n : Nat} {KI : Int} {w : W} {s : Sim} (O : qG n KI w s) (m : Sim.Move) : (qq s m).2 < s.n := by
 have hn := O.nn;have hkn : m.a % s.n < s.n := Nat.mod_lt _ (by omega);unfold qq;dsimp only
 split
 · exact hkn
 · split
   · split
     · exact hkn
     · rename_i y hy;have ho := (O.net y (List.mem_of_getElem? hy)).o
       have hyn : y.o.toNat < s.n := by omega
       repeat' split
       all_goals exact hyn
   · repeat' split
     all_goals exact hkn
theorem qi8 {n : Nat} {KI : Int} {w : W} {K : Nat} {s : Sim} (O : qG n KI w s) (h : Tame K s) (m : Sim.Move) (yes : (s.move m).2 = true) : Tame (K + 2) (s.move m).1 := by
 rcases qdM yes with ⟨e,_⟩ | e
 · rw [e];exact h.mono (by omega)
 · rw [e];exact qi7 (qdL O h m fun y hy => (qdV (O.net y hy).right).i.1) (by rw [qgI]; exact qf8 O m)
end Go.Proofs.YtmiijlecfiddmaaGreat
set_option linter.unusedVariables false
set_option linter.unusedSimpArgs false
set_option maxRecDepth 100000
set_option maxHeartbeats 200000
namespace Go.Proofs.YtmiijlecfiddmaaGreat
theorem qd3 {n : Nat} {K : Int} {w : W} (O : WOk n K w) {T : Int} {L : List Ent} (h : Com w T L) : (L.length : Int) <= K /\ ∀ e ∈ L,e.d.length <= 12000 := by
 rcases h with rfl | ⟨T0,c,Y,h1,h2,h3,h4⟩
 · exact ⟨O.kk.1,fun e he => by cases he⟩
 · obtain ⟨y1,_,y2⟩ := O.yr _ _ _ h2;have hl := h4.length_le;rw [List.length_take] at hl;refine ⟨by omega,fun e he => ?_⟩;have he' := List.mem_of_mem_take (h4.subset he);exact ((qy _ _ _).1 (qR y1 e he')).2.2
theorem qi9 (s : Sim) (m : Sim.Move) : (qq s m).1.all = s.all := by
 unfold qq;dsimp only
 repeat' split
 all_goals rfl
theorem qj4 (s : Sim) (m : Sim.Move) : ((qq s m).1.lg (qq s m).2).length <= (s.lg (qq s m).2).length \/ ((qq s m).1.lg (qq s m).2).length <= ((qq s m).1.r (qq s m).2).lg.l.length := by
 by_cases h7 : m.k = 7
 · unfold qq;dsimp only;rw [if_neg (by omega),if_neg (by omega),if_neg (by omega),if_neg (by omega),if_neg (by omega),if_pos h7]
   split
   · right
     dsimp only;rw [qm,qm];exact List.length_filter_le _ _
   · exact .inl nlq
 · left
   unfold qq;dsimp only
   repeat' split
   all_goals first | exact nlq | contradiction
theorem qk6 {n K : Nat} {w : W} {s : Sim} (O : qG n K w s) (T : Tame K s) (hK : K <= 90000) (m : Sim.Move) (e : s.move m = (qq s m).1.look (qq s m).2) : Fine (qq s m).1 (qq s m).2 := by
 obtain ⟨yes,w',O'⟩ := qgH O (by omega) m
 have Ta := qdL O T m fun y hy => (qdV (O.net y hy).right).i.1
 have hkn := qf8 O m;have hn := qgI s m;have hall := qi9 s m;have hlg := qj4 s m;have hnn := O.nn
 have hms : ((qq s m).1.r (qq s m).2).ms.length <= 4 := by
  have hx : ∀ j,j < s.n -> (s.r j).ms.length <= 0 /\ (s.r j).n <= 3 := fun j hj => by
   have h1 := (O.rest j (by omega)).is.2.2.1;have h2 := (O.nd j (by omega)).id;rw [h1];exact ⟨nlq,by omega⟩
  have key : ∀ (j : Nat) (r' : Node) (B : Nat),j < s.n -> B <= 4 -> Node.More B (s.r j) r' -> ((Sim.upd s.r j r') j).ms.length <= 4 := fun j r' B hj hB hM => by
   rw [qm];have h1 := hM.2;have h2 := (hx j hj).1;omega
  have ha : m.a % s.n < s.n := Nat.mod_lt _ (by omega)
  have h0 : ∀ j,j < s.n -> (s.r j).ms.length <= 4 := fun j hj => by have := (hx j hj).1; omega
  unfold qq;dsimp only
  split
  · exact key (m.a % s.n) _ _ ha (by have := (hx _ ha).2; omega) (Node.more_tick _)
  · split
    · split
      · exact h0 _ ha
      · rename_i y hy;have ho := (O.net y (List.mem_of_getElem? hy)).o
        have hyn : y.o.toNat < s.n := by omega
        split
        · split <;> exact h0 _ hyn
        · split <;> exact key y.o.toNat _ _ hyn (by have := (hx _ hyn).2; omega) (Node.more_step _ _)
    · split
      · exact key (m.a % s.n) _ _ ha (by have := (hx _ ha).2; omega) (Node.more_propose _ _)
      · split
        · show (Sim.upd s.r _ (Node.fresh _ _ _ _ _ _) _).ms.length <= 4;rw [qm];exact Nat.zero_le _
        · split
          · split <;> exact key (m.a % s.n) _ _ ha (by have := (hx _ ha).2; omega) (Node.more_read _)
          · split
            · split <;> exact key (m.a % s.n) _ _ ha (by omega) (Node.more_compact _ _ _)
            · exact h0 _ ha
 have hslg : (s.lg (qq s m).2).length <= K := by
  have h1 := (O.rest _ (show (qq s m).2 < n by omega)).lg;have h2 := (O.nd _ (show (qq s m).2 < n by omega)).fu.len;have h3 := O.ok.lk (qq s m).2;have h4 := (O.nd _ (show (qq s m).2 < n by omega)).fu.i0;rw [h1];omega
 have hal := O.all;rw [e] at yes O';rw [<- hall] at hal;generalize qq s m = A at *;obtain ⟨A,k⟩ := A;dsimp only at *;obtain ⟨_,_,hL,_⟩ := qgA yes
 have hr : (A.look k).1.r k = (A.r k).took.1 := by
  obtain ⟨l,hl⟩ := qcH A k
  have h1 : ((A.lone k).1.agrees k).1.r = A.r := by
   rw [hl];unfold Sim.agrees;dsimp only
   split
   · rfl
   · split <;> rfl
  rw [hL,(qcG _ k).1,qm,h1]
 have N := O'.nd k (by omega);rw [hr] at N;have N1 := N.fu.len;have N2 := O'.ok.lk k;have N3 := N.fu.i0;have N4 := N.cm;have hTn := Ta.node k (by omega)
 have hl1 : (A.r k).lg.l.length <= K + 1 := by
  have h1 : ((A.r k).lg.l.length : Int) = (w'.g.log k).length - (A.r k).lg.i := N1;have h2 : 0 <= (A.r k).lg.i := N3;omega
 obtain ⟨T1,hT1⟩ := hal;obtain ⟨T2,hT2⟩ := O'.all;have c1 := qd3 O.ok hT1;have c2 := qd3 O'.ok hT2
 have hlg1 : (A.lg k).length <= K + 1 := by
  rcases hlg with h | h <;> omega
 have hnet := Ta.net;have hldr := Ta.ldr;have hrds := Ta.rds;have htd := hTn.2.2.2
 refine { n3 := by omega,kn := by omega,good := ⟨N.fu.good.base,N.fu.good.run⟩,len := by omega,nn := ?_,sd := ?_,cm := ?_,sni := N.sn.1,ms := by omega,td := by omega,lg := by omega,net := by omega,ldr := by omega,rds := by omega,all := by omega,dl := fun x hx => Nat.le_trans (c2.2 x hx) (by omega) }
 · have h1 : (A.r k).n = n := N.id.2.1;omega
 · rcases Int.lt_or_le 0 (A.r k).sn.i with h | h
   · have h1 : (A.r k).sn.d = _ := N.sn.2.2.1 h;rw [h1,qbl];omega
   · have h1 : (A.r k).sn.d = _ := N.sn.2.2.2 (by
      have h2 : (A.r k).sn.i = (A.r k).lg.i := N.sn.1;have h3 : 0 <= (A.r k).lg.i := N3;show (A.r k).sn.i = 0
      omega)
     rw [h1];exact Nat.zero_le _
 · have h1 : (A.r k).lg.i <= (A.r k).cm := N4.1;have h2 : (A.r k).cm <= (w'.g.log k).length := N4.2;have h3 : 0 <= (A.r k).lg.i := N3;omega
def qb2 (n K : Nat) (s : Sim) : Prop := (∃ w,qG n K w s) /\ Tame K s
theorem qja {n : Nat} (h1 : 1 <= n) (h3 : n <= 3) : qb2 n 0 (Sim.made n) := ⟨⟨_,qk4 h1 h3⟩,qi4 n⟩
theorem qjb {n K : Nat} {s : Sim} (G : qb2 n K s) (hK : K <= 90000) (m : Sim.Move) :
 (s.move m).2 = true /\ qb2 n (K + 2) (s.move m).1 /\ (∀ k,k < s.n -> Able (s.r k)) /\ s.net.length <= 400000 /\ s.all.length <= 400000 /\ (∀ e ∈ s.all,e.d.length <= 1000000) /\ (∀ k,k < s.n -> (s.lg k).length <= 1000000) ∧
 ((0 < s.net.length \/ ¬ ((m.k : Int) = 1 \/ (m.k : Int) = 2 \/ (m.k : Int) = 3)) -> Fine (qq s m).1 (qq s m).2) /\ s.n = n := by
 obtain ⟨⟨w,O⟩,T⟩ := G;obtain ⟨yes,w',O'⟩ := qgH O (by omega) m;have hn := O.nn;obtain ⟨T1,hT1⟩ := O.all;have c1 := qd3 O.ok hT1;have hnet := T.net;refine ⟨yes,⟨⟨w',O'.more (by omega) (by omega)⟩,qi8 O T m yes⟩,fun k hk => ?_,by omega,by omega,fun e he => Nat.le_trans (c1.2 e he) (by omega),fun k hk => ?_,fun hx => ?_,hn.1⟩
 · obtain ⟨t1,t2,t3⟩ := T.node k hk;have R := (O.rest k (by omega)).is.2.2.1;exact qk5 O.ok (O.nd k (by omega)) (by omega) t1 t2 (by rw [Int.toNat_natCast]; exact t3) (by rw [R]; exact Nat.zero_le _)
 · have h1 := (O.rest k (by omega)).lg;have h2 := (O.nd k (by omega)).fu.len;have h3 := O.ok.lk k;have h4 := (O.nd k (by omega)).fu.i0;rw [h1];omega
 · rcases qdM yes with ⟨_,h0,hk⟩ | e
   · exfalso
     rcases hx with hx | hx <;> omega
   · exact qk6 O T hK m e
end Go.Proofs.YtmiijlecfiddmaaGreat
set_option linter.unusedVariables false
set_option linter.unusedSimpArgs false
set_option maxRecDepth 100000
set_option maxHeartbeats 6400000
namespace Go.Proofs.YtmiijlecfiddmaaGreat.raftSafe
open Go.RowKit Go.Shelf Go.Proofs.YtmiijlecfiddmaaGreat
attribute [local go_sem] Oper.semAt_some
theorem qj5 {w w1 w2 : World} {lab lab' : Nat -> Nat} (hb : Below w.heap.size w w1) (h0 : ∀ b,b < w.heap.size -> lab b = 0) (t : Turn (fun i => i ≠ 0) w1 w2 lab lab') : Below w.heap.size w w2 /\ ∀ b,b < w.heap.size -> lab' b = 0 :=
 ⟨hb.trans ⟨t.os,t.tape,t.output,t.size,fun b h1 => t.same b (Nat.lt_of_lt_of_le h1 hb.size) fun e => e (h0 b h1)⟩,fun b h1 => (t.old b (Nat.lt_of_lt_of_le h1 hb.size) fun e => e (h0 b h1)).trans (h0 b h1)⟩
theorem qlk {w wr : World} {S : Sim} {L : SimL} {lab : Nat -> Nat} {n k : Nat} (h : qh wr S L lab) (G : qb2 n k S) (hk : k <= 90000) (hb : Below w.heap.size w wr) (h0 : ∀ b,b < w.heap.size -> lab b = 0) (m : MvL) (hm : MvOk w m) :
 Calls Tryz.prog 20 #[ptrV L.g, .agg #[.int .u8 m.k, .int .u8 m.a, .int .u8 m.x, .slice m.D m.d.length m.dc]] wr fun e w' => e = .returned (.bool true) ∧
  ∃ S' L' lab',qh w' S' L' lab' /\ L'.g = L.g /\ qb2 n (k + 2) S' /\ Below w.heap.size w w' /\ ∀ b,b < w.heap.size -> lab' b = 0 := by
 obtain ⟨yes,g1,g2,g3,g4,g5,g6,g7,g8⟩ := qjb G hk ⟨m.k.toNat,m.a.toNat,m.x.toNat,m.d⟩
 have hn : 1 <= n /\ n <= 3 := by
  obtain ⟨⟨w0,O⟩,_⟩ := G;exact O.nn.2
 have hkk := hm.k
 refine (RegW.moveP_any h m.k m.a m.x m.D m.d m.dc hm.k hm.a hm.x hm.c (hm.l.below hb nlq) (fun hz g o e => h0 g (hm.z hz g o e)) (by omega) g2 g3 g4 g5 g6 (fun hx => g7 (by
  show 0 < S.net.length \/ ¬ ((m.k.toNat : Int) = 1 \/ (m.k.toNat : Int) = 2 \/ (m.k.toNat : Int) = 3);rw [Int.toNat_of_nonneg hkk.1]
  exact hx)) yes).mono ?_
 rintro e w' ⟨rfl,L',lab',z1,z2,z3⟩;obtain ⟨y1,y2⟩ := qj5 hb h0 z3;exact ⟨rfl,_,L',lab',z1,z2,g1,y1,y2⟩
theorem walkSafe (x : Int) (A : Option Addr) (len cap : Nat) (K : Nat -> MvL) (w : World) (hx : 0 <= x /\ x < 256) (hlc : len <= cap) (hcm : cap <= maxLen) (hM : qcV w A len K) (hK : ∀ j,j < len -> MvOk w (K j)) :
 Calls Tryz.prog 4 #[.int .u8 x, .slice A len cap] w fun e w' => e = .returned (.bool true) /\ Below w.heap.size w w' := by
 obtain ⟨m,rfl⟩ : ∃ m : Nat,x = (m : Int) := ⟨x.toNat,by omega⟩;have hlm : len <= maxLen := Nat.le_trans hlc hcm;have HM := hdq2 hM hK;clear hM hK
 go_enter Tryz.func4,Tryz.ntmps4
 go_wp2_with fail
 refine (qc5 _).mono ?_;rintro e w1 ⟨rfl,hb1⟩;have hF := qfT A len cap K 300 w1 (HM.out.1.below hb1) (fun j hj => (HM.out.2 j hj).below hb1) hlm (by omega) hlc
 go_wp2_with fail
 refine hF.mono ?_;rintro e w2 ⟨b,rfl,hfew,rfl⟩;clear hF
 cases b with
 | false =>
   clear hfew
   go_wp2_with fail
   refine (qc5 _).mono ?_;rintro e w3 ⟨rfl,hb3⟩;go_wp2;go_ret;exact ⟨rfl,hb1.trans (hb3.mono hb1.size)⟩
 | true =>
   obtain ⟨hlen,_⟩ := hfew rfl;clear hfew;have HB := Lib.hid hb1;clear hb1;obtain ⟨n,hn⟩ := exq (1 + m % 3)
   have hn13 : 1 <= n /\ n <= 3 := by omega
   have hMade := RegW.madeP_any w1 n hn13.1 hn13.2;rw [show (n : Int) = 1 + (m : Int) % 3 by omega] at hMade;have HN := Lib.hid hn;clear hn
   go_wp2_with fail
   refine hMade.mono ?_;rintro e w3 ⟨L,lab,rfl,hS,hb3,hl0⟩;have hb13 := HB.out.trans (hb3.mono HB.out.size);obtain ⟨g,hg⟩ := exq (L.g);rw [hg];have H3 := hdq4 hS hg hb13 (fun b (hb : b < w.heap.size) => hl0 b (Nat.lt_of_lt_of_le hb HB.out.size));have HG := Lib.hid (qja hn13.1 hn13.2);clear hS hg hb13 hb3 hl0 hMade
   go_wp2_with fail
   go_loopw [24] (fun v24 wr => ∃ j : Nat,j <= len /\ v24 = .int .i64 (j : Int) /\ ∃ S L lab,qh wr S L lab /\ L.g = g /\ qb2 n (2 * j) S /\ Below w.heap.size w wr /\ ∀ b,b < w.heap.size -> lab b = 0) (fun v24 _ => len - (intOf v24).toNat)
   case atStart => exact ⟨0,Nat.zero_le _,rfl,_,L,lab,H3.out.1,H3.out.2.1,HG.out,H3.out.2.2.1,H3.out.2.2.2⟩
   case round =>
    obtain ⟨j,hj,rfl,S,L9,lab9,x1,x2,x3,x4,x5⟩ := hrel;have HX := hdq5 x1 x2 x3 x4 x5;clear x1 x2 x3 x4 x5
    by_cases hj2 : j < len
    · have l1 : decide ((j : Int) < (len : Int)) = true := decide_eq_true (by omega);have hMv := qlk HX.out.1 HX.out.2.2.1 (by omega) HX.out.2.2.2.1 HX.out.2.2.2.2 (K j) (HM.out.2 j hj2);rw [HX.out.2.1] at hMv;obtain ⟨g1,off,e,hg1,hc⟩ := (HM.out.1.below HX.out.2.2.2.1) (by omega);obtain ⟨c0,c1,c2,c3⟩ := hc j hj2;subst e;clear hc
      go_wp2_with fail
      refine hMv.mono ?_;rintro e w5 ⟨rfl,S',L',lab',z1,z2,z3,z4,z5⟩;have HZ := hdq5 z1 z2 z3 z4 z5;clear z1 z2 z3 z4 z5 hMv c0 c1 c2 c3;go_wp2
      go_roundw
      case rel => exact ⟨j + 1,hj2,by go_num,S',L',lab',HZ.out.1,HZ.out.2.1,HZ.out.2.2.1,HZ.out.2.2.2.1,HZ.out.2.2.2.2⟩
      case measure =>
       simp [intOf]
       omega
    · obtain rfl : j = len := by omega
      go_wp2;go_ret;exact ⟨rfl,HX.out.2.2.2.1⟩
end Go.Proofs.YtmiijlecfiddmaaGreat.raftSafe
set_option linter.unusedVariables false
set_option linter.unusedSimpArgs false
set_option maxRecDepth 100000
set_option maxHeartbeats 200000
namespace Go.Proofs.YtmiijlecfiddmaaGreat
open Go.ChangeShapes Go.WideShapes Go.ChangeAt Go.RowKit
section
variable {H : Type} {enc : TypeId × Value → H} {P : Program}
theorem qeB (hl : laidOutB P = true) {W W' : World} {sp : Nat -> Bool} : ∀ {ts : List TypeId} {vs : List Value} {ds : List (DataW H)} {ps : List MemPlace},(∀ t ∈ ts,P.readableRec t = true /\ t < P.types.size) →
 DataW.TrodAll enc P W 0 (fun _ => true) true ts vs ds ps -> (∀ x ∈ ps,W.sameAt W' x) -> (∀ x ∈ ps,sp x.block = true) -> DataW.TrodAll enc P W' 0 sp true ts vs ds ps
 | [],[],[],_,_,h,_,_ => h
 | t :: _,_ :: _,_ :: _,_,hT,⟨p,q,h1,h2,e⟩,hs,hp =>
   ⟨p,q,WideElems.Trod_stays hl (hT t List.mem_cons_self).1 (hT t List.mem_cons_self).2 h1 (fun x hx => hs x (by rw [e]; exact List.mem_append_left _ hx)) (fun x hx => hp x (by rw [e]; exact List.mem_append_left _ hx)),
     qeB hl (fun t ht => hT t (List.mem_cons_of_mem _ ht)) h2 (fun x hx => hs x (by rw [e]; exact List.mem_append_right _ hx)) (fun x hx => hp x (by rw [e]; exact List.mem_append_right _ hx)),e⟩
theorem law_end (hl : laidOutB P = true) {f : Func} {s : ChangeSpec} {T : TypeId} {W W' : World} {args : Array Value} {ds gs : List (DataW H)} {before : List MemPlace}
 (hT : ∀ t ∈ f.params.toList,P.readableRec t = true /\ t < P.types.size) (hvars : s.vars = []) (hres : f.resultTypes = #[T]) (hb : P.underlying T = some .bool)
 (hW : DataW.Whole enc P f.params.toList s.vars false W args.toList ds gs before)
 (hr : (s.fn H (ds ++ gs)).results = [.lit (.bool true)]) (ha : (s.fn H (ds ++ gs)).args = ds) (hv : (s.fn H (ds ++ gs)).vars = [])
 (hbel : Below W.heap.size W W') : s.post enc P f false true false false W args (.bool true) W' := by
 have hW' := hW;obtain ⟨p,q,hA,hV,hps,hfz,_⟩ := hW;rw [hvars] at hV;obtain ⟨rfl,rfl⟩ := trodVars_none hV;rw [List.append_nil] at hps;subst hps
 have hlt : ∀ x ∈ before,x.block < W.heap.size := fun x hx => hW'.lt x hx
 have harg : ∀ sp : Nat -> Bool,(∀ x ∈ before,sp x.block = true) -> DataW.TrodAll enc P W' 0 sp true f.params.toList args.toList (s.fn H (ds ++ [])).args before := fun sp hsp => by
  rw [ha];exact qeB hl hT hA (fun x hx => hbel.same (hlt x hx)) hsp
 have hvar : ∀ sp : Nat -> Bool,DataW.TrodVars enc P W' sp s.vars (s.fn H (ds ++ [])).vars [] := fun sp => by
  rw [hvars,hv];exact rfl
 have hresult : ∀ (b : Nat) (sp : Nat -> Bool) (hd : Bool),DataW.TrodAll enc P W' b sp hd f.resultTypes.toList ((Value.bool true).resultList f.resultTypes.size) (s.fn H (ds ++ [])).results [] := fun b sp hd => by
  rw [hr,hres];exact trodAll_cons_mk (shut_bool hb _) trodAll_mk0
 refine ⟨ds,[],before,[],before,[],hW',hresult _ _ _,harg _ (fun x hx => by simpa using hlt x hx),hvar _,World.keptBut_mono (fun x hx => ⟨hx,Or.inr (Or.inl hx)⟩) (hbel.frame (· ∈ before)),fun h => by cases h⟩
end
end Go.Proofs.YtmiijlecfiddmaaGreat
