/- A member of one: opened on a disk that has nothing; its State; saves that change nothing. -/
import Derived.Test.YtogbhedbgcmckaaGreatNNM01
import Derived.Test.YtogbhedbgcmckaaGreatNNM35
import Derived.Test.YtogbhedbgcmckaaGreatNNM34
set_option linter.unusedVariables false
set_option linter.unusedSimpArgs false
set_option maxRecDepth 100000
set_option maxHeartbeats 3200000
namespace Go.Proofs.YtogbhedbgcmckaaGreat
open Go.RowKit
theorem qh0 (D : Dsk) (h : Hd) (hr : rightH h = true) : D.saveV h h [] = ((D,0),h) := by
 have e : saveRecs h h [] = [] := by unfold saveRecs; rw [if_pos rfl]; rfl
 unfold Dsk.saveV Dsk.added;rw [e,if_pos rfl]
 simp [hr]
theorem qkp (k : Nat) (hk : k <= 5) : (⟨(oneN k).ht,(oneN k).hv⟩ : Hd) = ⟨0,-1⟩ /\ (oneN k).lg.changed = [] /\ (oneN k).cm = 0 := by
 rw [qba k hk];exact ⟨rfl,rfl,rfl⟩
section
variable {W w X : World} {m p v j d : Nat} {N : Node} {D D1 : Dsk} {was : Hd} {n ap : Int} {g : Bool} {Zv Zn Z : Nat → Prop} {q : Ptrs} {s : Nat} {xs : List MLay} {K : Nat → Prop}
theorem qf5 {X : World} {n : Nat} {a b c a0 b0 c0 : Value} {T : TypeId} (h : X.heap[n]? = some (.cells #[a0,b0,c0] T)) :
 (((X.setCell ⟨n,0,none⟩ a).setCell ⟨n,1,none⟩ b).setCell ⟨n,2,none⟩ c).heap[n]? = some (.cells #[a,b,c] T) /\ Below n X (((X.setCell ⟨n,0,none⟩ a).setCell ⟨n,1,none⟩ b).setCell ⟨n,2,none⟩ c) /\ (∀ k,k ≠ n -> (((X.setCell ⟨n,0,none⟩ a).setCell ⟨n,1,none⟩ b).setCell ⟨n,2,none⟩ c).heap[k]? = X.heap[k]?) :=
 ⟨qN X n a b c a0 b0 c0 T h,(((blq.setCell (p := ⟨n,0,none⟩) nlq a).setCell (p := ⟨n,1,none⟩) nlq b).setCell (p := ⟨n,2,none⟩) nlq c),fun k hk => (Below.heap_setCell _ _ _ _ (by exact hk)).trans ((Below.heap_setCell _ _ _ _ (by exact hk)).trans (Below.heap_setCell _ _ _ _ (by exact hk)))⟩
theorem qeE (k : Nat) (hk : k < 5) (h : Mb W w m p v j d (oneN k) D ⟨0,-1⟩ n 0 false Zv Zn q s xs K) (hn : 0 <= n /\ n <= 900000000) :
 Calls Tryz.prog 6 #[.pointer (some ⟨m,0,none⟩)] w fun e w' => ∃ MA mc DA dc EA ec TA tc a b c n' Zv' Zn' q' s' xs' K',e = .returned (.tuple #[.agg #[.slice MA a mc, .int .i64 0, .int .i64 0, .slice DA 0 dc, .slice EA 0 ec, .slice TA b tc], .int .i64 0]) /\ Mb W w' m p v j d (oneN (k + 1)) D ⟨0,-1⟩ n' 0 false Zv' Zn' q' s' xs' K' /\ (0 <= n' /\ n' <= n + 1) /\ (∀ k,Beside Zv Zn j v m k -> Beside Zv' Zn' j v m k) /\ qa (Beside Zv Zn j v m) w w' /\ c = n' := by
 refine (qcY k (by omega) h hn ⟨Int.le_refl _,by omega⟩).mono ?_;rintro e w' ⟨n',Zv',Zn',q',s',xs',K',h1,h2,h3,h4,h5⟩;obtain ⟨e1,e2,e3⟩ := qkp (k + 1) (by omega);rw [e1,e2,e3,qh0 D ⟨0,-1⟩ (by decide),qko (k + 1) (by omega)] at h5;rw [e2] at h2;rcases h5 with ⟨_,⟨MA,mc,DA,dc,EA,ec,TA,tc,rfl⟩,hM⟩ | ⟨h6,_⟩
 · have e4 : (oneN (k + 1)).part (0 + 1) 0 = [] := by rw [qba (k + 1) (by omega)]; rfl
   rw [e4];exact ⟨MA,mc,DA,dc,EA,ec,TA,tc,_,_,n',n',Zv',Zn',q',s',xs',K',rfl,hM,⟨h1,by simpa using h2⟩,h3,h4,rfl⟩
 · exact absurd rfl h6
/-- qdK on a disk that has nothing. -/
theorem qeF (hd : Dk w d D Z) (hm : (D.told nWal).1.length <= 20000) (hh : Held) (hv : D.openV = ((D1,0),hh)) (h1 : hh.h = ⟨0,-1⟩) (h2 : hh.s = ⟨0,0,[]⟩) (h3 : hh.l = []) (hW : Below W.heap.size W w) (hz : ∀ k,k < W.heap.size -> Z k) :
 Calls Tryz.prog 11 #[.int .i64 0, .int .i64 1,dptr d] w fun e w' => ∃ m p v j n B c Zv Zn q s xs K,e = .returned (.tuple #[.pointer (some ⟨m,0,none⟩), .agg #[.int .i64 0, .int .i64 0, .slice B 0 c], .int .i64 0]) /\ Mb W w' m p v j d (oneN 0) D1 ⟨0,-1⟩ n 0 false Zv Zn q s xs K /\ (0 <= n /\ n <= 20001) /\ (∀ k,Z k -> Beside Zv Zn j v m k) /\ qa Z w w' := by
 obtain ⟨hq,sq,lq⟩ := hh;dsimp only at h1 h2 h3;subst h1 h2 h3;obtain ⟨W1,hW1⟩ := exq (w.alloc (.cells #[.int .i64 0, .int .i64 0, .slice none 0 0] 25))
 have hb1 : Below w.heap.size w W1 := by rw [<- hW1]; exact blq.alloc nlq _
 have hr1 : W1.heap[w.heap.size]? = some (.cells #[.int .i64 0, .int .i64 0, .slice none 0 0] 25) := by rw [<- hW1]; exact heap_alloc_new w _
 have hs1 : W1.heap.size = w.heap.size + 1 := by rw [<- hW1]; simp
 have hO := qiH W1 d D _ (hd.wide hb1) hm;have hold := hd.old;have HW := hdq8 hW1 hb1 hr1 hs1 hold hW hz hv;clear hW1 hb1 hr1 hs1 hold hW hz hv hm hd
 go_enter Tryz.func11,Tryz.ntmps11
 go_upto_region 1 with fail
 rw [HW.out.1]
 go_wp2_with fail
 refine hO.mono ?_;intro e w2 hop;obtain ⟨v,j,n,Z',Bs,bc,A,c,rfl,ho⟩ := qav.ok hop HW.out.2.2.2.2.2.2.2
 have hN := fun X (hX : Below w2.heap.size w2 X) => qkk 0 1 0 (-1) ⟨0,0,[]⟩ [] Bs bc A c _ X ⟨by decide,by decide,by decide⟩ (by decide) (by decide) (by decide) (by decide) (by decide) ((ho.lies).below hX nlq) (fun h0 => absurd h0 (by decide)) (by decide) ((ho.ents.ents).below hX nlq) (by decide)
 clear hO hop;have hk2 := ho.kp;have HO := Lib.hid ho;clear ho
 go_upto_region 4 with fail
 obtain ⟨W3,hW3⟩ := exq ((w2.alloc (.cells #[.int .i64 0, .int .i64 (-1)] 54)).alloc (.cells #[.int .i64 0, .int .i64 0, .slice Bs 0 bc] 25))
 have hb3 : Below w2.heap.size w2 W3 := by rw [<- hW3]; exact (blq.alloc nlq _).alloc (by simp) _
 have r10 : W3.heap[w2.heap.size]? = some (.cells #[.int .i64 0, .int .i64 (-1)] 54) := by rw [<- hW3]; exact (Below.heap_alloc _ _ _ (by simp)).trans (heap_alloc_new w2 _)
 have r11 : W3.heap[w2.heap.size + 1]? = some (.cells #[.int .i64 0, .int .i64 0, .slice Bs 0 bc] 25) := by rw [<- hW3]; exact heap_alloc2_new w2 _ _
 have hs3 : W3.heap.size = w2.heap.size + 2 := by rw [<- hW3]; simp
 rw [hW3];obtain ⟨⟨u0,u1⟩,_⟩ := row2 r10;obtain ⟨⟨y0,y1,y2⟩,_⟩ := row3 r11;have hN3 := hN W3 hb3;have H3 := hdq3 hb3 r11 hs3;clear hW3 hb3 r10 r11 hs3 hN
 go_wp2_with fail
 refine hN3.mono ?_;rintro e w4 ⟨p,q,s,K,rfl,R4,hfr,hb4⟩;have r11 := (hb4.block _ (hlt H3.out.2.1)).trans H3.out.2.1;clear u0 u1 y0 y1 y2 hN3;obtain ⟨⟨y0,y1,y2⟩,_⟩ := row3 r11;have H4 := hdq4 R4 hfr hb4 r11;clear R4 hfr hb4 r11
 go_upto_region 7 with fail
 refine wp_region_held_drew (S := (fun w' => w'.cell? ⟨w2.heap.size + 1,0,none⟩ = some (.int .i64 0) /\ w'.cell? ⟨w2.heap.size + 1,1,none⟩ = some (.int .i64 0) /\ w'.cell? ⟨w2.heap.size + 1,2,none⟩ = some (.slice Bs 0 bc))) (by kernel_rfl) ⟨y0,y1,y2⟩ (fun hHeld => ?_);refine lsq 10 ?_;refine tkq 0 ?_;refine tkq 1 ?_;refine tkq 2 ?_;refine tkq 3 ?_;refine tkq 4 ?_;refine tkq 6 ?_;refine rdq1 5 fun KK hK => ?_;go_simp;obtain ⟨W5,hW5⟩ := exq ((w4.alloc (.cells #[ptrV p, .pointer (some ⟨v,0,none⟩), .int .i64 0, .bool false] 70)).drew)
 have hb5 : Below w4.heap.size w4 W5 := by rw [<- hW5]; exact (blq.alloc nlq _).drew
 have r5 : W5.heap[w4.heap.size]? = some (.cells #[ptrV p, .pointer (some ⟨v,0,none⟩), .int .i64 0, .bool false] 70) := by rw [<- hW5]; exact heap_alloc_new w4 _
 have hs5 : W5.heap.size = w4.heap.size + 1 := by rw [<- hW5]; simp
 rw [hW5];have r11 := (hb5.block _ (hlt H4.out.2.2.2)).trans H4.out.2.2.2;clear y0 y1 y2 hW5;obtain ⟨⟨y0,y1,y2⟩,_⟩ := row3 r11;refine hK.out _ _ ⟨y0,y1,y2⟩ ?_;clear hK KK hHeld;intro hHeld
 try simp only [lpq]
 -- the member as it stands now
 have ho := HO.out;obtain ⟨R4,hfr,hb4,_⟩ := H4.out;obtain ⟨hb3,_,hs3⟩ := H3.out;obtain ⟨_,hb1,hr1,hs1,hold,hW,hz,_⟩ := HW.out;have k2 := ho.kp.size;have hs4 := hb4.size;have hwW := hW.size;have hvl : v < w2.heap.size := ho.vt.lt;have hjl : j < w2.heap.size := ho.vt.lg.lt;have hRz := ho.sub w.heap.size (.inr ⟨nlq,by omega⟩);have hb25 : Below w2.heap.size w2 W5 := hb3.trans ((hb4.mono hb3.size).trans (hb5.mono (by omega)))
 have hM : Mb W W5 w4.heap.size p v j d (oneN 0) D1 ⟨0,-1⟩ n 0 false (fun k => Z' k \/ w2.heap.size <= k /\ k < W5.heap.size) (fun k => k < W3.heap.size \/ w4.heap.size <= k /\ k < W5.heap.size) q s [] K := by
  refine ⟨r5,ho.vt.wide hb25,(R4.more (Y := fun k => w4.heap.size <= k) (fun k hk => hk) hb5).less fun k hk => hk.elim .inl fun e => .inr e.1,hfr,fun k hk => by rcases hk with hk | hk <;> omega,fun k hk => ?_,⟨.inr (by omega),by omega,by omega⟩, .inr (by omega),fun k hk => ⟨.inl (by omega), .inl (ho.sub k (.inl (hz k hk))).1,(ho.sub k (.inl (hz k hk))).2.1,(ho.sub k (.inl (hz k hk))).2.2,by omega⟩,?_⟩
  · rcases Nat.lt_or_ge k W3.heap.size with q1 | q1
    · exact .inl (.inl q1)
    · rcases Nat.lt_or_ge k w4.heap.size with q2 | q2
      · exact .inr ⟨.inr (by omega),by omega,by omega⟩
      · exact .inl (.inr ⟨q2,hk⟩)
  · exact (hW.trans (qab (hb1.mono hwW) ho.kp (fun k hk => .inl (hz k hk)) (by omega))).trans (hb25.mono (by omega))
 have hBs : ∀ k,Z k -> Beside (fun k => Z' k \/ w2.heap.size <= k /\ k < W5.heap.size) (fun k => k < W3.heap.size \/ w4.heap.size <= k /\ k < W5.heap.size) j v w4.heap.size k := fun k hk => by
  have h1 := hold k hk;exact ⟨⟨.inl (ho.sub k (.inl hk)).1,(ho.sub k (.inl hk)).2⟩, .inl (by omega),by omega⟩
 have hBR : Beside (fun k => Z' k \/ w2.heap.size <= k /\ k < W5.heap.size) (fun k => k < W3.heap.size \/ w4.heap.size <= k /\ k < W5.heap.size) j v w4.heap.size w.heap.size := ⟨⟨.inl hRz.1,hRz.2⟩, .inl (by omega),by omega⟩;have hrR : W5.heap[w.heap.size]? = some (.cells #[.int .i64 0, .int .i64 0, .slice none 0 0] 25) := (hb25.block _ (by omega)).trans ((ho.kp.block _ (by omega) (.inr ⟨nlq,by omega⟩)).trans hr1);have hkZ : qa Z w W5 := ((qb hb1 nlq).trans (ho.kp.mono fun k hk => .inl hk)).trans (qb hb25 nlq);obtain ⟨_,f0,f1,f2⟩ := row3 hrR;have HM := hdq8 hM hBs hBR hrR hkZ hwW ho.num hold;clear hM hBs hBR hrR hkZ hwW hold hRz hb25 ho R4 hfr hb4 hb3 hs3 hb1 hr1 hs1 hW hz k2 hs4 hvl hjl hb5 r5 hs5 r11;refine tkq 7 ?_;refine rdq1 8 fun KK hK => ?_;go_simp;have h3 := qf5 (a := .int .i64 0) (b := .int .i64 0) (c := .slice Bs 0 bc) HM.out.2.2.2.1
 have hsz : (((W5.setCell ⟨w.heap.size,0,none⟩ (.int .i64 0)).setCell ⟨w.heap.size,1,none⟩ (.int .i64 0)).setCell ⟨w.heap.size,2,none⟩ (.slice Bs 0 bc)).heap.size = W5.heap.size := by simp
 obtain ⟨W6,hW6⟩ := exq (((W5.setCell ⟨w.heap.size,0,none⟩ (.int .i64 0)).setCell ⟨w.heap.size,1,none⟩ (.int .i64 0)).setCell ⟨w.heap.size,2,none⟩ (.slice Bs 0 bc));rw [hW6] at h3 hsz ⊢;have e1 := h3.2.2 (w2.heap.size + 1) (by have := HM.out.2.2.1.2.1; have := hlt H3.out.2.1; have := HO.out.kp.size; have := HW.out.2.2.2.1; omega);refine hK.out _ _ ⟨(World.cell?_of_block e1).trans y0,(World.cell?_of_block e1).trans y1,(World.cell?_of_block e1).trans y2⟩ ?_;clear hK KK hHeld f0 f1 f2 y0 y1 y2 hW6 e1;intro hHeld
 try simp only [lpq]
 refine tkq 9 ?_;refine dnq ?_;have hM6 := HM.out.1.boxed HM.out.2.2.1.1 HM.out.2.2.1.2.1 HM.out.2.2.1.2.2 HM.out.2.2.2.2.2.1 hsz h3.2.1.tape h3.2.1.os h3.2.1.output h3.2.2;have hk6 : qa Z w W6 := HM.out.2.2.2.2.1.trans ⟨h3.2.1.os,h3.2.1.tape,h3.2.1.output,h3.2.1.size,fun k _ hk => h3.2.2 k fun e => by have := HM.out.2.2.2.2.2.2.2 k hk; omega⟩;have hr6 := h3.1;clear h3 hsz hHeld;go_wp2;refine bodyPost_ret (qaP (n := w.heap.size) rfl rfl hr6 Tryz.underlying25 rfl (by kernel_rfl)) rfl ?_;exact ⟨w4.heap.size,p,v,j,n,Bs,bc,_,_,q,s,[],K,rfl,hM6,HM.out.2.2.2.2.2.2.1,HM.out.2.1,hk6⟩
end
end Go.Proofs.YtogbhedbgcmckaaGreat
set_option linter.unusedVariables false
set_option linter.unusedSimpArgs false
set_option maxRecDepth 100000
set_option maxHeartbeats 1600000
namespace Go.Proofs.YtogbhedbgcmckaaGreat
open Go.RowKit
theorem qkq {X : World} {n : Nat} (u0 u1 u2 u3 u4 u5 u6 u7 u8 u9 : Value) {z0 z1 z2 z3 z4 z5 z6 z7 z8 z9 : Value} {T : TypeId} (h : X.heap[n]? = some (.cells #[z0,z1,z2,z3,z4,z5,z6,z7,z8,z9] T)) :
 ((((((((((X.setCell ⟨n,0,none⟩ u0).setCell ⟨n,1,none⟩ u1).setCell ⟨n,2,none⟩ u2).setCell ⟨n,3,none⟩ u3).setCell ⟨n,4,none⟩ u4).setCell ⟨n,5,none⟩ u5).setCell ⟨n,6,none⟩ u6).setCell ⟨n,7,none⟩ u7).setCell ⟨n,8,none⟩ u8).setCell ⟨n,9,none⟩ u9).heap[n]? = some (.cells #[u0,u1,u2,u3,u4,u5,u6,u7,u8,u9] T) /\ Below n X ((((((((((X.setCell ⟨n,0,none⟩ u0).setCell ⟨n,1,none⟩ u1).setCell ⟨n,2,none⟩ u2).setCell ⟨n,3,none⟩ u3).setCell ⟨n,4,none⟩ u4).setCell ⟨n,5,none⟩ u5).setCell ⟨n,6,none⟩ u6).setCell ⟨n,7,none⟩ u7).setCell ⟨n,8,none⟩ u8).setCell ⟨n,9,none⟩ u9) := by
 have r0 := stq 0 u0 h;have r1 := stq 1 u1 r0;have r2 := stq 2 u2 r1;have r3 := stq 3 u3 r2;have r4 := stq 4 u4 r3;have r5 := stq 5 u5 r4;have r6 := stq 6 u6 r5;have r7 := stq 7 u7 r6;have r8 := stq 8 u8 r7;have r9 := stq 9 u9 r8;exact ⟨r9,((((((((((blq.setCell (p := ⟨n,0,none⟩) nlq u0).setCell (p := ⟨n,1,none⟩) nlq u1).setCell (p := ⟨n,2,none⟩) nlq u2).setCell (p := ⟨n,3,none⟩) nlq u3).setCell (p := ⟨n,4,none⟩) nlq u4).setCell (p := ⟨n,5,none⟩) nlq u5).setCell (p := ⟨n,6,none⟩) nlq u6).setCell (p := ⟨n,7,none⟩) nlq u7).setCell (p := ⟨n,8,none⟩) nlq u8).setCell (p := ⟨n,9,none⟩) nlq u9)⟩
abbrev qlt : Array Value := #[.int .i64 0, .int .i64 0, .int .i64 0, .int .i64 0, .int .i64 0, .int .i64 0, .int .i64 0, .int .i64 0, .slice none 0 0, .slice none 0 0]
theorem qh1 (w : World) : Calls Tryz.prog 15 #[.pointer none] w fun e w' => e = .returned (.agg qlt) /\ Below w.heap.size w w' := by
 have hb : Below w.heap.size w (w.alloc (.cells #[.int .i64 0, .int .i64 0, .int .i64 0, .int .i64 0, .int .i64 0, .int .i64 0, .int .i64 0, .int .i64 0, .slice none 0 0, .slice none 0 0] 57)) := blq.alloc nlq _
 go_enter Tryz.func15,Tryz.ntmps15
 go_wp2;refine bodyPost_ret (qE (n := w.heap.size) rfl rfl (heap_alloc_new w _) Tryz.underlying57 rfl (by kernel_rfl)) rfl ?_;exact ⟨rfl,hb⟩
section
variable {W w : World} {m p v j d : Nat} {N : Node} {D : Dsk} {was : Hd} {n ap : Int} {g : Bool} {Zv Zn : Nat → Prop} {q : Ptrs} {s : Nat} {xs : List MLay} {K : Nat → Prop}
theorem qjn (h : Mb W w m p v j d N D was n ap g Zv Zn q s xs K) (hl : N.lg.l.length <= 1000000) (hn : N.n <= 3) : Calls Tryz.prog 15 #[.pointer (some ⟨m,0,none⟩)] w fun e w' =>
 ∃ b1 b2 b3 b4 b5 b6 b7 NA nc MA mc,e = .returned (.agg #[.int .i64 N.ro, .int .i64 b1, .int .i64 b2, .int .i64 b3, .int .i64 b4, .int .i64 b5, .int .i64 b6, .int .i64 b7, .slice NA N.n nc, .slice MA N.n mc]) /\ Below w.heap.size w w' := by
 obtain ⟨W1,hW1⟩ := exq (w.alloc (.cells #[.int .i64 0, .int .i64 0, .int .i64 0, .int .i64 0, .int .i64 0, .int .i64 0, .int .i64 0, .int .i64 0, .slice none 0 0, .slice none 0 0] 57))
 have hb1 : Below w.heap.size w W1 := by rw [<- hW1]; exact blq.alloc nlq _
 have hr1 : W1.heap[w.heap.size]? = some (.cells #[.int .i64 0, .int .i64 0, .int .i64 0, .int .i64 0, .int .i64 0, .int .i64 0, .int .i64 0, .int .i64 0, .slice none 0 0, .slice none 0 0] 57) := by rw [<- hW1]; exact heap_alloc_new w _
 have h1 := h.below hb1;have hS := qdU h1.rf hl hn;have c0 := h1.c.1;have HH := hdq3 hb1 hr1 hW1;clear h h1 hb1 hr1 hW1
 go_enter Tryz.func15,Tryz.ntmps15
 go_upto_region 1 with fail
 rw [HH.out.2.2]
 go_wp2_with fail
 refine hS.mono ?_;rintro e w2 ⟨NA,nc,MA,mc,rfl,_,_,_,_,hb2⟩;have hr2 := (hb2.block _ (hlt HH.out.2.1)).trans HH.out.2.1;have hb := HH.out.1.trans (hb2.mono HH.out.1.size)
 obtain ⟨f0,f1,f2,f3,f4,f5,f6,f7,f8,f9⟩ : w2.frozen? ⟨w.heap.size,0,none⟩ = false /\ w2.frozen? ⟨w.heap.size,1,none⟩ = false /\ w2.frozen? ⟨w.heap.size,2,none⟩ = false /\ w2.frozen? ⟨w.heap.size,3,none⟩ = false /\ w2.frozen? ⟨w.heap.size,4,none⟩ = false /\ w2.frozen? ⟨w.heap.size,5,none⟩ = false /\ w2.frozen? ⟨w.heap.size,6,none⟩ = false /\ w2.frozen? ⟨w.heap.size,7,none⟩ = false /\ w2.frozen? ⟨w.heap.size,8,none⟩ = false /\ w2.frozen? ⟨w.heap.size,9,none⟩ = false :=
  ⟨qf hr2 _,qf hr2 _,qf hr2 _,qf hr2 _,qf hr2 _,qf hr2 _,qf hr2 _,qf hr2 _,qf hr2 _,qf hr2 _⟩
 obtain ⟨x0,x1,x2,x3,x4,x5,x6,x7,x8,x9⟩ : w2.cell? ⟨w.heap.size,0,none⟩ = some (.int .i64 0) /\ w2.cell? ⟨w.heap.size,1,none⟩ = some (.int .i64 0) /\ w2.cell? ⟨w.heap.size,2,none⟩ = some (.int .i64 0) /\ w2.cell? ⟨w.heap.size,3,none⟩ = some (.int .i64 0) /\ w2.cell? ⟨w.heap.size,4,none⟩ = some (.int .i64 0) /\ w2.cell? ⟨w.heap.size,5,none⟩ = some (.int .i64 0) /\ w2.cell? ⟨w.heap.size,6,none⟩ = some (.int .i64 0) /\ w2.cell? ⟨w.heap.size,7,none⟩ = some (.int .i64 0) /\ w2.cell? ⟨w.heap.size,8,none⟩ = some (.slice none 0 0) /\ w2.cell? ⟨w.heap.size,9,none⟩ = some (.slice none 0 0) :=
  ⟨qe hr2 _ _ rfl,qe hr2 _ _ rfl,qe hr2 _ _ rfl,qe hr2 _ _ rfl,qe hr2 _ _ rfl,qe hr2 _ _ rfl,qe hr2 _ _ rfl,qe hr2 _ _ rfl,qe hr2 _ _ rfl,qe hr2 _ _ rfl⟩
 have h10 := qkq (.int .i64 N.ro) (.int .i64 N.ld) (.int .i64 N.wk) (.int .i64 N.ht) (.int .i64 N.hv) (.int .i64 N.cm) (.int .i64 N.lg.i) (.int .i64 N.lg.lastI) (.slice NA N.n nc) (.slice MA N.n mc) hr2;have HE := hdq2 h10 hb;clear hS c0 hb2 hr2 hb h10;go_wp2;refine bodyPost_ret (qE (n := w.heap.size) rfl rfl HE.out.1.1 Tryz.underlying57 rfl (by kernel_rfl)) rfl ?_;exact ⟨_,_,_,_,_,_,_,NA,nc,MA,mc,rfl,HE.out.2.trans HE.out.1.2⟩
end
end Go.Proofs.YtogbhedbgcmckaaGreat
set_option linter.unusedVariables false
set_option linter.unusedSimpArgs false
set_option maxRecDepth 100000
set_option maxHeartbeats 3200000
namespace Go.Proofs.YtogbhedbgcmckaaGreat
open Go.RowKit
def am0 : Dsk := ⟨10000,[],false,0,false⟩
def am1 : (Dsk × Nat) × Held := am0.openV
theorem am_1 : am1.1.2 = 0 /\ am1.2.h.t = 0 /\ am1.2.h.v = -1 /\ am1.2.s.i = 0 /\ am1.2.s.t = 0 /\ am1.2.s.d.length = 0 /\ am1.2.l.length = 0 /\ (am0.told nWal).1.length <= 20000 := by decide +kernel
theorem am_2 : (am1.1.1.saveV ⟨0,-1⟩ ⟨1,0⟩ [⟨1,1,[]⟩]).1.2 = 0 := by decide +kernel
theorem qgU {D : Dsk} {hh : Held} {D1 : Dsk} {c : Nat} (hv : D.openV = ((D1,c),hh)) (hc : c = 0) (h1 : hh.h.t = 0 /\ hh.h.v = -1) (h2 : hh.s.i = 0 /\ hh.s.t = 0 /\ hh.s.d.length = 0) (h3 : hh.l.length = 0) :
 D.openV = ((D1,0),hh) /\ hh.h = ⟨0,-1⟩ /\ hh.s = ⟨0,0,[]⟩ /\ hh.l = [] := by
 obtain ⟨⟨a,b⟩,⟨i,t,d⟩,l⟩ := hh;dsimp only at h1 h2 h3;obtain ⟨rfl,rfl⟩ := h1;obtain ⟨rfl,rfl,h2⟩ := h2;rw [List.length_eq_zero_iff] at h2 h3;subst h2 h3 hc;exact ⟨hv,rfl,rfl,rfl⟩
theorem qd5 : (oneN 6).ht = 1 /\ (oneN 6).hv = 0 /\ (oneN 6).lg.changed = [⟨1,1,[]⟩] /\ (oneN 6).cm = 1 /\ ((oneN 6).took.1.part (0 + 1) 1).length = 1 /\ (oneN 6).took.1.ro = 3 /\ (oneN 6).took.1.lg.l.length <= 1000000 /\ (oneN 6).took.1.n <= 3 :=
 ⟨by decide,by decide,by rfl,by decide,by decide,by decide,by decide,by decide⟩
section
variable {W w X : World} {m p v j d : Nat} {D : Dsk} {n : Int} {Zv Zn : Nat → Prop} {q : Ptrs} {s : Nat} {xs : List MLay} {K : Nat → Prop}
theorem qjo (h : Mb W w m p v j d (oneN 5) D ⟨0,-1⟩ n 0 false Zv Zn q s xs K) (hn : 0 <= n /\ n <= 900000000) (hc : (D.saveV ⟨0,-1⟩ ⟨1,0⟩ [⟨1,1,[]⟩]).1.2 = 0) :
 Calls Tryz.prog 6 #[.pointer (some ⟨m,0,none⟩)] w fun e w' => ∃ MA mc DA dc EA ec TA tc a b D' was' n' Zv' Zn' q' s' xs' K',e = .returned (.tuple #[.agg #[.slice MA a mc, .int .i64 0, .int .i64 0, .slice DA 0 dc, .slice EA 1 ec, .slice TA b tc], .int .i64 0]) /\ Mb W w' m p v j d (oneN 6).took.1 D' was' n' 1 false Zv' Zn' q' s' xs' K' := by
 obtain ⟨e1,e2,e3,e4,e5,_⟩ := qd5;refine (qcY 5 (by omega) h hn ⟨Int.le_refl _,by omega⟩).mono ?_;rintro e w' ⟨n',Zv',Zn',q',s',xs',K',h1,h2,h3,h4,h5⟩;show ∃ MA mc DA dc EA ec TA tc a b D' was' n' Zv' Zn' q' s' xs' K',_;have e0 : (oneN (5 + 1)) = oneN 6 := rfl;rw [e0,e1,e2,e3,e4] at h5;rcases h5 with ⟨_,⟨MA,mc,DA,dc,EA,ec,TA,tc,rfl⟩,hM⟩ | ⟨h6,_⟩
 · rw [e5];exact ⟨MA,mc,DA,dc,EA,ec,TA,tc,_,_,_,_,n',Zv',Zn',q',s',xs',K',rfl,hM⟩
 · exact absurd hc h6
theorem qh2 (h : Mb W w m p v j d (oneN 5) D ⟨0,-1⟩ n 0 false Zv Zn q s xs K) (hn : 0 <= n /\ n <= 900000000) (hc : (D.saveV ⟨0,-1⟩ ⟨1,0⟩ [⟨1,1,[]⟩]).1.2 = 5) :
 Calls Tryz.prog 6 #[.pointer (some ⟨m,0,none⟩)] w fun e w' => ∃ D' was' n' Zv' Zn' q' s' xs' K',e = .returned (.tuple #[.agg qaH, .int .i64 5]) /\ Mb W w' m p v j d (oneN 6).took.1 D' was' n' 0 true Zv' Zn' q' s' xs' K' /\ (∀ k,Beside Zv Zn j v m k -> Beside Zv' Zn' j v m k) /\ qa (Beside Zv Zn j v m) w w' := by
 obtain ⟨e1,e2,e3,e4,e5,_⟩ := qd5;refine (qcY 5 (by omega) h hn ⟨Int.le_refl _,by omega⟩).mono ?_;rintro e w' ⟨n',Zv',Zn',q',s',xs',K',h1,h2,h3,h4,h5⟩;have e0 : (oneN (5 + 1)) = oneN 6 := rfl;rw [e0,e1,e2,e3,e4] at h5;rcases h5 with ⟨h6,_⟩ | ⟨_,rfl,hM⟩
 · rw [hc] at h6;cases h6
 · rw [hc];exact ⟨_,_,n',Zv',Zn',q',s',xs',K',rfl,hM,h3,h4⟩
end
theorem qdl (w : World) : Calls Tryz.prog 4 #[] w fun e w' => e = .returned (.bool true) /\ Below w.heap.size w w' := by
 have hN := qgL w (· < w.heap.size) 10000 (fun k hk => hk) (by omega) (by omega);obtain ⟨a1,a2,a3,a4,a5,a6,a7,a8⟩ := am_1;have a9 := am_2;have hv : am0.openV = am1 := rfl
 have hO := fun w1 d (hd : Dk w1 d am0 (· < w.heap.size)) (hb : Below w.heap.size w w1) => by
  obtain ⟨h1,h2,h3,h4⟩ := qgU (show am0.openV = ((am1.1.1,am1.1.2),am1.2) from rfl) a1 ⟨a2,a3⟩ ⟨a4,a5,a6⟩ a7;exact qeF hd a8 am1.2 h1 h2 h3 h4 hb (fun k hk => hk)
 clear a1 a2 a3 a4 a5 a6 a7 a8 hv;obtain ⟨_,_,_,_,_,o6,o7,o8⟩ := qd5;generalize am1.1.1 = D1 at *;have HA := hdq4 a9 o6 o7 o8;clear a9 o6 o7 o8
 go_enter Tryz.func4,Tryz.ntmps4
 go_wp2_with fail
 refine hN.mono ?_;rintro e w1 ⟨d,rfl,hD1,hb1⟩;have hO1 := hO w1 d hD1 hb1;clear hN hO hD1 hb1
 go_wp2_with fail
 refine hO1.mono ?_;rintro e w2 ⟨m,p,v,j,n,B,c,Zv,Zn,q,s,xs,K,rfl,hM,hn,_,_⟩;obtain ⟨W2,hW2⟩ := exq (w2.alloc (.cells #[.int .i64 0, .int .i64 0, .slice B 0 c] 25));have hM2 := hM.below (w' := W2) (by rw [<- hW2]; exact blq.alloc nlq _);have H2 := hdq3 hM2 hn hW2;clear hO1 hM hM2 hn hW2
 go_upto_region 3 with fail
 rw [H2.out.2.2]
 go_wp2_with fail
 go_loopw [6,21] (fun v6 v21 wr => ∃ k : Nat,k <= 6 /\ v21 = .int .i64 (k : Int) /\ ((k <= 5 /\ v6 = .int .i64 0 /\ ∃ n' Zv Zn q s xs K,Mb w wr m p v j d (oneN k) D1 ⟨0,-1⟩ n' 0 false Zv Zn q s xs K /\ 0 <= n' /\ n' <= 20001 + (k : Int)) \/ (k = 6 /\ v6 = .int .i64 1 /\ ∃ D' was' n' Zv Zn q s xs K,Mb w wr m p v j d (oneN 6).took.1 D' was' n' 1 false Zv Zn q s xs K))) (fun _ v21 _ => 6 - (intOf v21).toNat)
 case atStart => exact ⟨0,Nat.zero_le _,rfl, .inl ⟨Nat.zero_le _,rfl,n,_,_,q,s,xs,K,H2.out.1,H2.out.2.1.1,by have := H2.out.2.1.2; omega⟩⟩
 case round =>
  obtain ⟨k,hk,rfl,hR⟩ := hrel;rcases hR with ⟨hk5,rfl,n1,Zv1,Zn1,q1,s1,xs1,K1,hM,hn1,hn2⟩ | ⟨rfl,rfl,D',was',n1,Zv1,Zn1,q1,s1,xs1,K1,hM⟩
  · have e1 : decide ((k : Int) < 6) = true := decide_eq_true (by omega)
    by_cases h5 : k < 5
    · have hT := qeE k h5 hM ⟨hn1,by omega⟩;clear hM
      go_wp2_with fail
      refine hT.mono ?_;rintro e w3 ⟨MA,mc,DA,dc,EA,ec,TA,tc,a,b,c3,n3,Zv3,Zn3,q3,s3,xs3,K3,rfl,hM3,hn3,_,_,_⟩;obtain ⟨W4,hW4⟩ := exq (w3.alloc (.cells #[.slice MA a mc, .int .i64 0, .int .i64 0, .slice DA 0 dc, .slice EA 0 ec, .slice TA b tc] 38));have hM4 := hM3.below (w' := W4) (by rw [<- hW4]; exact blq.alloc nlq _)
      have x4 : W4.cell? ⟨w3.heap.size,4,none⟩ = some (.slice EA 0 ec) := by rw [<- hW4]; exact qe (heap_alloc_new _ _) 4 _ rfl
      have H4 := hdq3 hM4 hn3 hW4;clear hT hM3 hM4 hn3 hW4
      go_upto_region 9 with fail
      rw [H4.out.2.2];go_wp2
      go_roundw
      case rel => exact ⟨k + 1,by omega,by go_num, .inl ⟨by omega,rfl,n3,_,_,q3,s3,xs3,K3,H4.out.1,H4.out.2.1.1,by have := H4.out.2.1.2; omega⟩⟩
      case measure =>
       simp [intOf]
       omega
    · obtain rfl : k = 5 := by omega
      have hT := qjo hM ⟨hn1,by omega⟩ HA.out.1;clear hM
      go_wp2_with fail
      refine hT.mono ?_;rintro e w3 ⟨MA,mc,DA,dc,EA,ec,TA,tc,a,b,D',was',n3,Zv3,Zn3,q3,s3,xs3,K3,rfl,hM3⟩;obtain ⟨W4,hW4⟩ := exq (w3.alloc (.cells #[.slice MA a mc, .int .i64 0, .int .i64 0, .slice DA 0 dc, .slice EA 1 ec, .slice TA b tc] 38));have hM4 := hM3.below (w' := W4) (by rw [<- hW4]; exact blq.alloc nlq _)
      have x4 : W4.cell? ⟨w3.heap.size,4,none⟩ = some (.slice EA 1 ec) := by rw [<- hW4]; exact qe (heap_alloc_new _ _) 4 _ rfl
      have H4 := hdq2 hM4 hW4;clear hT hM3 hM4 hW4
      go_upto_region 9 with fail
      rw [H4.out.2];go_wp2
      go_roundw
      case rel => exact ⟨6,by omega,by go_num, .inr ⟨rfl,rfl,D',was',n3,_,_,q3,s3,xs3,K3,H4.out.1⟩⟩
      case measure => simp [intOf]
  · have hAp := qgG hM.row;have hSt := qjn hM HA.out.2.2.1 HA.out.2.2.2;rw [HA.out.2.1] at hSt;have hf0 := qeB;have HM := Lib.hid hM.low;clear hM
    go_wp2_with fail
    refine hAp.mono ?_;rintro e w3 ⟨rfl,rfl⟩;clear hAp
    go_wp2_with fail
    refine hSt.mono ?_;rintro e w4 ⟨b1,b2,b3,b4,b5,b6,b7,NA,nc,MA,mc,rfl,hb4⟩;go_wp2;go_ret;exact ⟨rfl,HM.out.trans (hb4.mono HM.out.size)⟩
end Go.Proofs.YtogbhedbgcmckaaGreat
set_option linter.unusedVariables false
set_option linter.unusedSimpArgs false
set_option maxRecDepth 100000
set_option maxHeartbeats 2000000
namespace Go.Proofs.YtogbhedbgcmckaaGreat
open Go.ChangeShapes Go.WideShapes Go.ChangeAt Go.RowKit Go.Deep
abbrev act13V (k : Int) (m : Msg) (A : Option Addr) (cA : Nat) (E : Option Addr) (cE : Nat) (D : Option Addr) (dn dc : Nat) (i : Int) (KA : Option Addr) (kn kc : Nat) : Value :=
 .agg #[.int .u8 k, .int .i64 m.k, .int .i64 m.f, .int .i64 m.o, .int .i64 m.t, .int .i64 m.i, .int .i64 m.l, .int .i64 m.c, .int .i64 m.x, .bool m.b, .slice A m.es.length cA, .int .i64 m.s.i, .int .i64 m.s.t, .slice E m.s.d.length cE, .slice D dn dc, .int .i64 i, .slice KA kn kc]
section
variable {H : Type} {enc : TypeId × Value → H} {P : Program} {W : World} {sp : Nat → Bool} {hd : Bool}
/-- An act. -/
theorem arg_act13 {base : Nat} {v : Value} {d : DataW H} {p : List MemPlace}
 (hok : Value.okWide Tryz.prog W .any base 30 v) (h : DataW.Trod enc Tryz.prog W 0 sp hd 30 v d p) (hlt : ∀ x ∈ p,x.block < W.heap.size) :
 ∃ (k : Int) (m : Msg) (A : Option Addr) (cA : Nat) (E : Option Addr) (cE : Nat) (D : Option Addr) (dn dc : Nat) (i : Int) (KA : Option Addr) (kn kc : Nat),v = act13V k m A cA E cE D dn dc i KA kn kc /\ qC W (· < W.heap.size) m A cA E cE /\ dc <= maxLen /\ dn <= dc /\ kc <= maxLen /\ kn <= kc /\ ((∀ n ∈ d.weights Tryz.prog 30,n <= reachBytes) -> ∀ e ∈ m.es,e.d.length <= 140737488355328) := by
 obtain ⟨cs,rfl,hsz⟩ := okWide_struct Tryz.underlying30 hok;rw [show Tryz.prog.cellsOf 30 = 17 by kernel_rfl] at hsz;obtain ⟨fuel,hf0⟩ := h
 obtain ⟨c0,c1,c2,c3,c4,c5,c6,c7,c8,c9,c10,c11,c12,c13,c14,c15,c16,hcs⟩ : ∃ c0 c1 c2 c3 c4 c5 c6 c7 c8 c9 c10 c11 c12 c13 c14 c15 c16,cs = #[c0,c1,c2,c3,c4,c5,c6,c7,c8,c9,c10,c11,c12,c13,c14,c15,c16] := by
  obtain ⟨l⟩ := cs;have hlen : l.length = 17 := hsz
  rcases l with _ | ⟨a,_ | ⟨b,_ | ⟨c,_ | ⟨d,_ | ⟨e,_ | ⟨f,_ | ⟨g,_ | ⟨h,_ | ⟨i,_ | ⟨j,_ | ⟨k,_ | ⟨l,_ | ⟨m,_ | ⟨n,_ | ⟨o,_ | ⟨p,_ | ⟨q,⟨_,_⟩⟩⟩⟩⟩⟩⟩⟩⟩⟩⟩⟩⟩⟩⟩⟩⟩⟩ <;> simp at hlen
  exact ⟨a,b,c,d,e,f,g,h,i,j,k,l,m,n,o,p,q,rfl⟩
 subst hcs
 have hdt : DataW.trod enc Tryz.prog W 0 sp hd fuel 30 [c0,c1,c2,c3,c4,c5,c6,c7,c8,c9,c10,c11,c12,c13,c14,c15,c16] = some (d,p) := by simpa [Value.cells] using hf0
 obtain ⟨ys,m,_,hx,_,hyl,hf⟩ := DataW.trod_struct Tryz.underlying30 hdt;have hys : ys.length = 5 := hyl;have hD : d = .agg (ys.map (·.1)) := congrArg Prod.fst hx;have hpl : p = ys.flatMap (·.2) := congrArg Prod.snd hx;have hlty : ∀ (i : Nat) (hi : i < ys.length),∀ q ∈ (ys[i]).2,q.block < W.heap.size := fun i hi q hq => hlt q (by rw [hpl]; exact List.mem_flatMap.2 ⟨_,List.getElem_mem hi,hq⟩);have g0 : DataW.trod enc Tryz.prog W 0 sp hd m 5 (List.take (Tryz.prog.cellsOf 5) [c0,c1,c2,c3,c4,c5,c6,c7,c8,c9,c10,c11,c12,c13,c14,c15,c16]) = ys[0]? := hf 0 _ rfl;rw [show Tryz.prog.cellsOf 5 = 1 by kernel_rfl,List.getElem?_eq_getElem (by omega)] at g0;have g0 : DataW.trod enc Tryz.prog W 0 sp hd m 5 [c0] = some (ys[0]'(by omega)) := g0;have g1 : DataW.trod enc Tryz.prog W 0 sp hd m 27 (List.take (Tryz.prog.cellsOf 27) [c1,c2,c3,c4,c5,c6,c7,c8,c9,c10,c11,c12,c13,c14,c15,c16]) = ys[1]? := hf 1 _ rfl;rw [show Tryz.prog.cellsOf 27 = 13 by kernel_rfl,List.getElem?_eq_getElem (by omega)] at g1;have g1 : DataW.trod enc Tryz.prog W 0 sp hd m 27 [c1,c2,c3,c4,c5,c6,c7,c8,c9,c10,c11,c12,c13] = some ((ys[1]'(by omega)).1,(ys[1]'(by omega)).2) := g1;have g2 : DataW.trod enc Tryz.prog W 0 sp hd m 23 (List.take (Tryz.prog.cellsOf 23) [c14,c15,c16]) = ys[2]? := hf 2 _ rfl;rw [show Tryz.prog.cellsOf 23 = 1 by kernel_rfl,List.getElem?_eq_getElem (by omega)] at g2;have g2 : DataW.trod enc Tryz.prog W 0 sp hd m 23 [c14] = some ((ys[2]'(by omega)).1,(ys[2]'(by omega)).2) := g2;have g3 : DataW.trod enc Tryz.prog W 0 sp hd m 3 (List.take (Tryz.prog.cellsOf 3) [c15,c16]) = ys[3]? := hf 3 _ rfl;rw [show Tryz.prog.cellsOf 3 = 1 by kernel_rfl,List.getElem?_eq_getElem (by omega)] at g3;have g3 : DataW.trod enc Tryz.prog W 0 sp hd m 3 [c15] = some (ys[3]'(by omega)) := g3;have g4 : DataW.trod enc Tryz.prog W 0 sp hd m 28 (List.take (Tryz.prog.cellsOf 28) [c16]) = ys[4]? := hf 4 _ rfl;rw [show Tryz.prog.cellsOf 28 = 1 by kernel_rfl,List.getElem?_eq_getElem (by omega)] at g4;have g4 : DataW.trod enc Tryz.prog W 0 sp hd m 28 [c16] = some ((ys[4]'(by omega)).1,(ys[4]'(by omega)).2) := g4;obtain ⟨n0,e0,_,_⟩ := DataW.trod_int Tryz.underlying5 g0;obtain ⟨n3,e3,_,_⟩ := DataW.trod_int Tryz.underlying3 g3;obtain ⟨mm,A,cA,E,cE,e1,hM,hw⟩ := qlg g1 (hlty 1 (by omega));obtain ⟨D,dn,dc,r,e2,hc,hlies,hz⟩ := qdm Tryz.underlying23 Tryz.underlying5 (by kernel_rfl) g2 (hlty 2 (by omega));obtain ⟨KA,kn,kc,r4,e4,hk1,hk2,_,_,_⟩ := qgH Tryz.underlying28 Tryz.underlying3 (by kernel_rfl) g4 (hlty 4 (by omega))
 have q0 : c0 = .int .u8 n0 := by injection e0
 have q3 : c15 = .int .i64 n3 := by injection e3
 subst q0 q3 e2 e4;have e1' := Array.mk.inj (Value.agg.inj e1);simp only [List.cons.injEq,and_true] at e1';obtain ⟨rfl,rfl,rfl,rfl,rfl,rfl,rfl,rfl,rfl,rfl,rfl,rfl,rfl⟩ := e1';refine ⟨n0,mm,A,cA,E,cE,D,dn,dc,n3,KA,kn,kc,rfl,hM,hc,hlies.2.1,hk2,hk1,fun hw' => hw fun n hn => hw' n ?_⟩;rw [hD];simp only [DataW.weights,Tryz.underlying30];exact DataW.weights_mem_each (j := 1) (t := 27) (d := (ys[1]'(by omega)).1) rfl (by rw [List.getElem?_map,List.getElem?_eq_getElem (by omega)]; rfl) n hn
end
end Go.Proofs.YtogbhedbgcmckaaGreat
set_option linter.unusedVariables false
set_option linter.unusedSimpArgs false
set_option maxRecDepth 100000
set_option maxHeartbeats 3200000
namespace Go.Proofs.YtogbhedbgcmckaaGreat
open Go.RowKit
attribute [local go_sem] Oper.semAt_some
theorem qcx {w : World} {g : Nat} {v0 v1 v2 v3 v4 v5 v6 v7 v8 v9 v10 v11 v12 v13 v14 v15 v16 : Value} {T : TypeId} {o : Nat × Nat} (h : w.heap[g]? = some (.cells #[v0,v1,v2,v3,v4,v5,v6,v7,v8,v9,v10,v11,v12,v13,v14,v15,v16] T o)) : w.cell? ⟨g,0,none⟩ = some v0 /\ w.cell? ⟨g,1,none⟩ = some v1 /\ w.cell? ⟨g,2,none⟩ = some v2 /\ w.cell? ⟨g,3,none⟩ = some v3 /\ w.cell? ⟨g,4,none⟩ = some v4 /\ w.cell? ⟨g,5,none⟩ = some v5 /\ w.cell? ⟨g,6,none⟩ = some v6 /\ w.cell? ⟨g,7,none⟩ = some v7 /\ w.cell? ⟨g,8,none⟩ = some v8 /\ w.cell? ⟨g,9,none⟩ = some v9 /\ w.cell? ⟨g,10,none⟩ = some v10 /\ w.cell? ⟨g,11,none⟩ = some v11 /\ w.cell? ⟨g,12,none⟩ = some v12 /\ w.cell? ⟨g,13,none⟩ = some v13 /\ w.cell? ⟨g,14,none⟩ = some v14 /\ w.cell? ⟨g,15,none⟩ = some v15 /\ w.cell? ⟨g,16,none⟩ = some v16 := by
 refine ⟨?_,?_,?_,?_,?_,?_,?_,?_,?_,?_,?_,?_,?_,?_,?_,?_,?_⟩ <;> simp [World.cell?,h]
theorem qjp (k : Int) (m : Msg) (A : Option Addr) (cA : Nat) (E : Option Addr) (cE : Nat) (D : Option Addr) (dn dc : Nat) (i : Int) (KA : Option Addr) (kn kc : Nat) (g : Nat) (T : TypeId) (o : Nat × Nat) (Z : Nat -> Prop) (w : World)
 (hrow : w.heap[g]? = some (.cells #[.int .u8 k, .int .i64 m.k, .int .i64 m.f, .int .i64 m.o, .int .i64 m.t, .int .i64 m.i, .int .i64 m.l, .int .i64 m.c, .int .i64 m.x, .bool m.b, .slice A m.es.length cA, .int .i64 m.s.i, .int .i64 m.s.t, .slice E m.s.d.length cE, .slice D dn dc, .int .i64 i, .slice KA kn kc] T o))
 (hM : qC w Z m A cA E cE) (hd : ∀ e ∈ m.es,e.d.length <= 140737488355328) (hdn : dn <= maxLen) (hkn : kn <= maxLen) :
 Calls Tryz.prog 5 #[.slice (some ⟨g,0,none⟩) 1 1, .int .i64 1] w fun e w' => ∃ b,e = .returned (.bool b) /\ Below w.heap.size w w' := by
 have hF := fun W (hW : Below w.heap.size w W) => qkm m A cA E cE W _ (hM.below hW nlq) hd
 obtain ⟨x0,x1,x2,x3,x4,x5,x6,x7,x8,x9,x10,x11,x12,x13,x14,x15,x16⟩ := qcx hrow;unfold maxLen at hdn hkn;generalize fewM m = q1 at *;clear hM hd;obtain ⟨mk,mf,mo,mt,mi,ml,mc,mx,mb,es,si,st,sd⟩ := m;dsimp only [msgV] at *
 go_enter Tryz.func5,Tryz.ntmps5
 go_wp2_with fail
 go_loopw [8] (fun v8 wr => ∃ k : Nat,k <= 1 /\ v8 = .int .i64 (k : Int) /\ Below w.heap.size w wr) (fun v8 _ => 1 - (intOf v8).toNat)
 case atStart => exact ⟨0,Nat.zero_le _,rfl,blq⟩
 case round =>
  obtain ⟨k,hk,rfl,hb⟩ := hrel
  by_cases hk0 : k = 0
  · subst hk0;have hrow := (hb.block g (hlt hrow)).trans hrow;clear x0 x1 x2 x3 x4 x5 x6 x7 x8 x9 x10 x11 x12 x13 x14 x15 x16;obtain ⟨x0,x1,x2,x3,x4,x5,x6,x7,x8,x9,x10,x11,x12,x13,x14,x15,x16⟩ := qcx hrow
    by_cases hq : 500 < dn
    · have e1 : decide ((500 : Int) < (dn : Int)) = true := decide_eq_true (by omega);go_wp2;go_ret;exact ⟨false,rfl,hb⟩
    · have e1 : decide ((500 : Int) < (dn : Int)) = false := decide_eq_false (by omega)
      by_cases hq2 : 9 < kn
      · have e2 : decide ((9 : Int) < (kn : Int)) = true := decide_eq_true (by omega);go_wp2;go_ret;exact ⟨false,rfl,hb⟩
      · have e2 : decide ((9 : Int) < (kn : Int)) = false := decide_eq_false (by omega);have hF := hF wr hb
        go_wp2_with fail
        refine hF.mono ?_;rintro e w2 ⟨rfl,hb2⟩
        cases q1 with
        | false =>
          go_wp2;go_ret;exact ⟨false,rfl,hb.trans (hb2.mono hb.size)⟩
        | true =>
          go_wp2
          go_roundw
          case rel => exact ⟨1,nlq,rfl,hb.trans (hb2.mono hb.size)⟩
          case measure => simp [intOf]
  · obtain rfl : k = 1 := by omega
    go_wp2;go_ret;exact ⟨true,rfl,hb⟩
end Go.Proofs.YtogbhedbgcmckaaGreat
