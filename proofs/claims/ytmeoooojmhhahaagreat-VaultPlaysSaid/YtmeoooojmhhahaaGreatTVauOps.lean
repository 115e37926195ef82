/- What the laws want of the program's disk: how it stands in memory, and each call's contract. 'Z': blocks that it is none of. -/
import Derived.Test.YtmeoooojmhhahaaGreatTWalL
set_option linter.unusedVariables false
set_option linter.unusedSimpArgs false
set_option maxRecDepth 100000
set_option maxHeartbeats 200000
namespace Go.Proofs.YtmeoooojmhhahaaGreat
open Go.RowKit
def qfK (w : World) (A : Option Addr) (l : List Fil) : Prop :=
 0 < l.length -> ∃ g off,A = some ⟨g,off,none⟩ /\ g < w.heap.size /\ ∀ j (hj : j < l.length),w.cell? ⟨g,off + j,none⟩ = some (.string l[j].name)
def InZ (Z : Nat -> Prop) (A : Option Addr) (n : Nat) : Prop := 0 < n -> ∀ a,A = some a -> Z a.block
structure qM where
 Dk : World -> Nat -> Dsk -> (Nat -> Prop) -> Prop
 keep : ∀ {w w' : World} {d : Nat} {D : Dsk} {Z : Nat -> Prop},Dk w d D Z -> w.heap.size <= w'.heap.size -> (∀ k,k < w.heap.size -> ¬ Z k -> w'.heap[k]? = w.heap[k]?) -> Dk w' d D Z
 out : ∀ {w : World} {d : Nat} {D : Dsk} {Z Z' : Nat -> Prop},Dk w d D Z -> (∀ k,Z' k -> Z k \/ w.heap.size <= k) -> Dk w d D Z'
 own : ∀ {w : World} {d : Nat} {D : Dsk} {Z : Nat -> Prop},Dk w d D Z -> ¬ Z d /\ d < w.heap.size
 new_ok : ∀ (room : Int) (w : World) (Z : Nat -> Prop),0 <= room -> room <= 1048576 -> (∀ k,Z k -> k < w.heap.size) →
  Calls Tryz.prog 11 #[.int .i64 room] w fun e w' => ∃ d,e = .returned (.tuple #[dptr d, .int .i64 0]) /\ Dk w' d ⟨room,[],false,0,false⟩ Z /\ qc Z w w'
 new_bad : ∀ (room : Int) (w : World),room < 0 \/ 1048576 < room -> Calls Tryz.prog 11 #[.int .i64 room] w fun e w' => e = .returned (.tuple #[.pointer none, .int .i64 1]) /\ Below w.heap.size w w'
 append : ∀ (w : World) (d : Nat) (D : Dsk) (Z : Nat -> Prop) (name : ByteArray) (A : Option Addr) (cap : Nat) (l : List UInt8),Dk w d D Z -> Good D -> (∀ k,Z k -> k < w.heap.size) -> Lies w A l.length cap l -> l.length <= 2147483647 -> cap <= maxLen -> name.size <= 2147483647 →
  Calls Tryz.prog 33 #[dptr d, .string name, .slice A l.length cap] w fun e w' => e = .returned (.int .i64 (((D.append name ⟨l.toArray⟩).2 : Nat) : Int)) /\ Dk w' d (D.append name ⟨l.toArray⟩).1 Z /\ qc Z w w'
 sync : ∀ (w : World) (d : Nat) (D : Dsk) (Z : Nat -> Prop) (name : ByteArray),Dk w d D Z -> Good D -> (∀ k,Z k -> k < w.heap.size) -> name.size <= 2147483647 →
  Calls Tryz.prog 34 #[dptr d, .string name] w fun e w' => e = .returned (.int .i64 (((D.sync name).2 : Nat) : Int)) /\ Dk w' d (D.sync name).1 Z /\ qc Z w w'
 cut : ∀ (w : World) (d : Nat) (D : Dsk) (Z : Nat -> Prop) (name : ByteArray) (n : Int),Dk w d D Z -> Good D -> (∀ k,Z k -> k < w.heap.size) -> name.size <= 2147483647 -> -9223372036854775808 <= n /\ n <= 9223372036854775807 →
  Calls Tryz.prog 66 #[dptr d, .string name, .int .i64 n] w fun e w' => e = .returned (.int .i64 (((D.cut name n).2 : Nat) : Int)) /\ Dk w' d (D.cut name n).1 Z /\ qc Z w w'
 rename : ∀ (w : World) (d : Nat) (D : Dsk) (Z : Nat -> Prop) (a b : ByteArray),Dk w d D Z -> Good D -> (∀ k,Z k -> k < w.heap.size) -> a.size <= 2147483647 -> b.size <= 2147483647 →
  Calls Tryz.prog 68 #[dptr d, .string a, .string b] w fun e w' => e = .returned (.int .i64 (((D.rename a b).2 : Nat) : Int)) /\ Dk w' d (D.rename a b).1 Z /\ qc Z w w'
 remove : ∀ (w : World) (d : Nat) (D : Dsk) (Z : Nat -> Prop) (name : ByteArray),Dk w d D Z -> Good D -> (∀ k,Z k -> k < w.heap.size) -> name.size <= 2147483647 →
  Calls Tryz.prog 32 #[dptr d, .string name] w fun e w' => e = .returned (.int .i64 (((D.remove name).2 : Nat) : Int)) /\ Dk w' d (D.remove name).1 Z /\ qc Z w w'
 read : ∀ (w : World) (d : Nat) (D : Dsk) (Z : Nat -> Prop) (name : ByteArray),Dk w d D Z -> Good D -> (∀ k,Z k -> k < w.heap.size) -> name.size <= 2147483647 →
  Calls Tryz.prog 31 #[dptr d, .string name] w fun e w' => ∃ A cap,e = .returned (.tuple #[.slice A (D.read name).1.size cap, .int .i64 (((D.read name).2 : Nat) : Int)]) /\ Lies w' A (D.read name).1.size cap (D.read name).1.data.toList /\ (0 < (D.read name).1.size -> New w.heap.size A) /\ Dk w' d D (fun k => Z k \/ w.heap.size <= k) /\ qc Z w w'
 names : ∀ (w : World) (d : Nat) (D : Dsk) (Z : Nat -> Prop),Dk w d D Z -> Good D -> (∀ k,Z k -> k < w.heap.size) →
  Calls Tryz.prog 73 #[dptr d] w fun e w' => ∃ A cap,e = .returned (.slice A D.l.length cap) /\ qfK w' A D.l /\ (0 < D.l.length -> New w.heap.size A) /\ Dk w' d D (fun k => Z k \/ w.heap.size <= k) /\ qc Z w w'
 safe : ∀ (w : World) (d : Nat) (D : Dsk) (Z : Nat -> Prop) (name : ByteArray),Dk w d D Z -> Good D -> (∀ k,Z k -> k < w.heap.size) -> name.size <= 2147483647 →
  Calls Tryz.prog 76 #[dptr d, .string name] w fun e w' => e = .returned (.int .i64 ((getF D.l name).1.safe : Int)) /\ Below w.heap.size w w'
 used : ∀ (w : World) (d : Nat) (D : Dsk) (Z : Nat -> Prop),Dk w d D Z -> Good D -> (∀ k,Z k -> k < w.heap.size) →
  Calls Tryz.prog 30 #[dptr d] w fun e w' => e = .returned (.int .i64 ((qg D.l : Nat) : Int)) /\ Dk w' d D Z /\ qc Z w w'
 lost : ∀ (w : World) (d : Nat) (D : Dsk) (Z : Nat -> Prop),Dk w d D Z →
  Calls Tryz.prog 75 #[dptr d] w fun e w' => e = .returned (.bool D.lost) /\ w = w'
 fuse : ∀ (w : World) (d : Nat) (D : Dsk) (Z : Nat -> Prop) (n : Int),Dk w d D Z -> (∀ k,Z k -> k < w.heap.size) -> -9223372036854775808 <= n /\ n <= 9223372036854775807 →
  Calls Tryz.prog 25 #[dptr d, .int .i64 n] w fun e w' => e = .returned (.int .i64 (((D.fuse n).2 : Nat) : Int)) /\ Dk w' d (D.fuse n).1 Z /\ qc Z w w'
 restart : ∀ (w : World) (d : Nat) (D : Dsk) (Z : Nat -> Prop) (K : Option Addr) (klen kcap : Nat) (Y : Nat -> Int),Dk w d D Z -> Good D -> (∀ k,Z k -> k < w.heap.size) -> RI w K klen Y -> klen <= 2147483647 -> klen <= kcap -> (0 < klen -> ∀ a,K = some a -> a.block ≠ d) →
  Calls Tryz.prog 26 #[dptr d, .slice K klen kcap] w fun e w' => e = .returned (.tuple #[]) /\ Dk w' d (D.restart Y klen) Z /\ qc Z w w'
structure Act where
 kind : Nat
 name : ByteArray
 to_ : ByteArray
 bA : Option Addr
 bcap : Nat
 bL : List UInt8
 n : Int
 kA : Option Addr
 klen : Nat
 kcap : Nat
 kY : Nat -> Int
abbrev actC (a : Act) : Array Value := #[.int .u8 (a.kind : Int), .string a.name, .string a.to_, .slice a.bA a.bL.length a.bcap, .int .i64 a.n, .slice a.kA a.klen a.kcap]
abbrev actV (a : Act) : Value := .agg (actC a)
structure qam (w : World) (Z : Nat -> Prop) (a : Act) : Prop where
 b : Lies w a.bA a.bL.length a.bcap a.bL
 bz : InZ Z a.bA a.bL.length
 k : RI w a.kA a.klen a.kY
 kz : InZ Z a.kA a.klen
 n : -9223372036854775808 <= a.n /\ a.n <= 9223372036854775807
 kind : a.kind < 256
 bcap : a.bcap <= maxLen
 kc : a.klen <= a.kcap
theorem qc.rf {w w' : World} {Z : Nat -> Prop} {A : Option Addr} {cap : Nat} {l : List Fil} (hk : qc Z w w') (h : RF w A cap l) (hz : InZ Z A l.length) : RF w' A cap l := by
 refine ⟨h.1,fun h0 => ?_⟩
 obtain ⟨g,off,e,hg,hc⟩ := h.2 h0
 refine ⟨g,off,e,Nat.lt_of_lt_of_le hg hk.size,fun j hj => ?_⟩
 obtain ⟨c0,c1,c2⟩ := hc j hj
 have hx : ∀ o,w'.cell? ⟨g,o,none⟩ = w.cell? ⟨g,o,none⟩ := fun o => World.cell?_of_block (hk.block g hg (hz h0 _ e))
 exact ⟨(hx _).trans c0,(hx _).trans c1,(hx _).trans c2⟩
theorem qc.ri {w w' : World} {Z : Nat -> Prop} {K : Option Addr} {klen : Nat} {Y : Nat -> Int} (hk : qc Z w w') (h : RI w K klen Y) (hz : InZ Z K klen) : RI w' K klen Y := by
 refine ⟨h.1,fun h0 => ?_⟩
 obtain ⟨b,off,e,hg,hc⟩ := h.2 h0
 exact ⟨b,off,e,Nat.lt_of_lt_of_le hg hk.size,fun j hj => (World.cell?_of_block (hk.block b hg (hz h0 _ e))).trans (hc j hj)⟩
theorem qc.lies {w w' : World} {Z : Nat -> Prop} {A : Option Addr} {len cap : Nat} {l : List UInt8} (hk : qc Z w w') (h : Lies w A len cap l) (hz : InZ Z A len) : Lies w' A len cap l :=
 h.keeps hk fun h0 g off e => hz h0 _ e
theorem qam.keeps {w w' : World} {Z : Nat -> Prop} {a : Act} (h : qam w Z a) (hk : qc Z w w') : qam w' Z a :=
 ⟨hk.lies h.b h.bz,h.bz,hk.ri h.k h.kz,h.kz,h.n,h.kind,h.bcap,h.kc⟩
theorem qam.mono {w : World} {Z Z' : Nat -> Prop} {a : Act} (h : qam w Z a) (hz : ∀ k,Z k -> Z' k) : qam w Z' a :=
 ⟨h.b,fun h0 x e => hz _ (h.bz h0 x e),h.k,fun h0 x e => hz _ (h.kz h0 x e),h.n,h.kind,h.bcap,h.kc⟩
def Act.on (a : Act) (D : Dsk) : Dsk :=
 if a.kind = 0 then (D.append a.name ⟨a.bL.toArray⟩).1 else
 if a.kind = 1 then (D.sync a.name).1 else
 if a.kind = 2 then (D.cut a.name a.n).1 else
 if a.kind = 3 then (D.rename a.name a.to_).1 else
 if a.kind = 4 then (D.remove a.name).1 else
 if a.kind = 5 then D else
 if a.kind = 6 then (D.fuse a.n).1 else
 if a.kind = 7 then D.restart a.kY a.klen else D
theorem Act.good (a : Act) {D : Dsk} (h : Good D) (hn : a.n <= 9223372036854775807) : Good (a.on D) := by
 unfold Act.on
 split
 · exact h.append _ _
 split
 · exact h.sync _
 split
 · exact h.cut _ _
 split
 · exact h.rename _ _
 split
 · exact h.remove _
 split
 · exact h
 split
 · exact h.fuse _ hn
 split
 · exact h.restart _ _
 · exact h
theorem DkG.wide {w w' : World} {d : Nat} {D : Dsk} {Z : Nat -> Prop} (h : DkG w d D Z Z) (hb : Below w.heap.size w w') : DkG w' d D (fun k => Z k \/ w.heap.size <= k) (fun k => Z k \/ w.heap.size <= k) :=
 h.carry hb.size (fun k hk => hk) (fun k hk => hk) fun k hk _ => hb.block k hk
theorem qlz (w : World) (d : Nat) (D : Dsk) (M Z : Nat -> Prop) (h : DkG w d D M Z) : Calls Tryz.prog 75 #[.pointer (some ⟨d,0,none⟩)] w fun e w' => e = .returned (.bool D.lost) /\ w = w' := by
 obtain ⟨t,h⟩ := h
 obtain ⟨u,hbx,_⟩ := h.box
 obtain ⟨⟨a0,a1,a2,a3,a4⟩,_⟩ := row5 hbx
 clear h hbx
 go_enter Tryz.func75,Tryz.ntmps75
 go_wp2
 go_ret
 exact ⟨rfl,rfl⟩
def qbk : qM where
 Dk w d D Z := DkG w d D Z Z
 keep h hs hb := h.carry hs (fun k hk => .inl hk) (fun k hk => .inl hk) hb
 out h hz := h.carry nlq hz hz fun k _ _ => rfl
 own h := h.own
 new_ok room w Z h0 h1 hZ := (qiu room w Z Z h0 h1 hZ hZ).mono fun e w' ⟨d,he,hD,hb⟩ => ⟨d,he,hD,qe hb nlq⟩
 new_bad room w h := (new_bad room w h).mono fun e w' ⟨he,hw⟩ => ⟨he,hw ▸ blq⟩
 append w d D Z name A cap l h hg hZ hl hb _ _ := qfm w d D Z Z name A cap l h hg hZ hZ hl hb
 sync w d D Z name h hg hZ _ := (qhh w d D Z Z name h hg hZ hZ).mono fun e w' ⟨he,hD,hk⟩ => ⟨he,hD,qaG h hk⟩
 cut w d D Z name n h hg hZ _ hn := (qit w d D Z Z name n hn h hg hZ hZ).mono fun e w' ⟨he,hD,hk⟩ => ⟨he,hD,qaG h hk⟩
 rename w d D Z a b h hg hZ _ _ := (qfl w d D Z Z a b h hg hZ hZ).mono fun e w' ⟨he,hD,hk⟩ => ⟨he,hD,qaG h hk⟩
 remove w d D Z name h hg hZ _ := (qfk w d D Z Z name h hg hZ hZ).mono fun e w' ⟨he,hD,hk⟩ => ⟨he,hD,qaG h hk⟩
 read w d D Z name h hg hZ _ := (qhi w d D Z Z name h hg).mono fun e w' ⟨A,cap,he,hl,hn,hb,_⟩ => ⟨A,cap,he,hl,fun _ => hn,h.wide hb,qe hb nlq⟩
 names w d D Z h hg hZ := (qkb w d D Z Z h hg).mono fun e w' ⟨A,cap,he,hr,hn,hb⟩ => ⟨A,cap,he,fun h0 => by
  obtain ⟨g,off,e,hg,hc⟩ := hr (by rw [List.length_map]; exact h0)
  exact ⟨g,off,e,hg,fun j hj => by
   have := hc j (by rw [List.length_map]; exact hj)
   rwa [List.getElem_map] at this⟩,fun _ => hn,h.wide hb,qe hb nlq⟩
 safe w d D Z name h hg hZ _ := qld w d D Z Z name h
 used w d D Z h hg hZ := (qlb w d D Z Z h).mono fun e w' ⟨he,hw⟩ => ⟨he,hw ▸ h,hw ▸ qc.refl _ _⟩
 lost w d D Z h := qlz w d D Z Z h
 fuse w d D Z n h hZ hn := (qlc w d D Z Z n h).mono fun e w' ⟨he,hD,hk⟩ => ⟨he,hD,qaG h hk⟩
 restart w d D Z K klen kcap Y h hg hZ hK hl hc hd := (qh2 w d D Z Z K klen kcap Y h hg hZ hZ hK hl hc hd).mono fun e w' ⟨he,hD,hk⟩ => ⟨he,hD,qaG h hk⟩
end Go.Proofs.YtmeoooojmhhahaaGreat
