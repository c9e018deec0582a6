import Derived.Test.YtblkkhfdeaaidaaGreatDoorTxRlsAndMayG
import Derived.Test.YtblkkhfdeaaidaaGreatDoorTxNuAndHeldSeq
import Derived.Deep.RegionLaw
import Derived.Deep.RegionWith
import Derived.Deep.Cut
import Derived.Deep.CutRange
import Derived.Deep.DrawnRows
import Derived.Test.YtblkkhfdeaaidaaGreatDoorMathAndTxSc
set_option maxHeartbeats 3200000
set_option maxRecDepth 100000
namespace Go.Proofs.YtblkkhfdeaaidaaGreatDoor
open Go.RowKit
def uL(s:List UInt8):Bool:=(bJ s).2.2&&aD ((bJ s).1.1:Nat) ((bJ s).1.2.1:Nat) (bJ s).1.2.2
theorem XI{l:List (Value×Ru)}{i:Nat}(hi:i<l.length):(qU l)[i*2]?=some (.int .i64 (l[i]).2.1)/\(qU l)[i*2+1]?=some (l[i]).1:=by
 unfold qU
 induction l generalizing i with
 |nil=>simp at hi
 |cons a L ih=>
  rw[List.flatMap_cons];cases i with
  |zero=>simp
  |succ i=>
   have:=ih (i:=i) (by simpa using hi);rw[List.getElem?_append_right (by simp;omega),List.getElem?_append_right (by simp;omega)];simp only[List.length_cons,List.length_nil];rw[show (i+1)*2-(0+1+1)=i*2 by omega,show (i+1)*2+1-(0+1+1)=i*2+1 by omega];simpa using this
def l7(w:World)(B:Nat)(rv:Value)(R:List Ru):Prop:=∀w':World,w.heap.size<=w'.heap.size->(∀k,B<=k->k<w.heap.size->w'.heap[k]?=w.heap[k]?)->au w' w'.heap.size rv R
section
variable{w w':World}{gb:Nat}{T N:Int}{rv:Value}{RL:List (Value×Ru)}
theorem l7.at{B:Nat}{R:List Ru}(h:l7 w B rv R):au w w.heap.size rv R:=h w (Nat.le_refl _) fun _ _ _=>rfl
theorem l7.on{B B':Nat}{R:List Ru}(h:l7 w B rv R)(hB:B'<=B)(hs:w.heap.size<=w'.heap.size)(hk:∀k,B<=k->k<w.heap.size->w'.heap[k]?=w.heap[k]?):l7 w' B' rv R:=
 fun w2 h1 h2=>h w2 (Nat.le_trans hs h1) fun k h3 h4=>(h2 k (by omega) (by omega)).trans (hk k h3 h4)
theorem OP{B:Nat}(hown:w.ownsRow B 91 2 rv RL.length (qU RL))(hright:∀x∈RL,w.ownsRow B 116 2 x.1 x.2.2.length (iy x.2.2)):au w w.heap.size rv (RL.map fun x=>x.2):=by
 obtain⟨a,c,aG⟩:=qm hown;refine⟨⟨a,c,by rw[aG,List.length_map]⟩,fun q hq=> ?_⟩;rw[List.length_map]at hq;have hq':(RL.map fun x=>x.2).getD q (0,[])=(RL[q]).2:=by simp[List.getD,hq]
 rw[hq'];rcases hown.2 with⟨_,h2⟩|⟨g,cap,cur,h1,_⟩
 ·omega
 ·have h3:=hright (RL[q]) (List.getElem_mem hq)
  obtain⟨h5,h6⟩:=XI hq;subst h1;obtain⟨va,vc,hv⟩:=qm h3
  have hle:(RL[q]).2.2.length<=vc:=by
   rcases h3.2 with⟨h7,h8⟩|⟨g',cap',cur',h7,_,_,h8,_⟩
   ·omega
   ·rw[hv]at h7;injection h7 with _ _ h7;omega
  refine⟨g,0,cap,va,vc,by rw[List.length_map],(hown.lt g rfl).2,?_,?_,hle,fun j hj=> ?_⟩
  ·rw[Nat.zero_add,hown.cellAt (q*2) (by omega)];exact h5
  ·rw[Nat.zero_add,hown.cellAt (q*2+1) (by omega),h6,hv]
  ·rcases h3.2 with⟨_,h8⟩|⟨g',cap',cur',h7,_⟩
   ·omega
   ·rw[hv]at h7
    injection h7 with h7 _ h9;subst h7;rw[hv]at h3;refine⟨g',0,rfl,(h3.lt g' rfl).2,?_,?_⟩
    ·rw[Nat.zero_add,h3.cellAt (j*2) (by omega)];exact NY (j:=0) hj (by omega)
    ·rw[Nat.zero_add,h3.cellAt (j*2+1) (by omega)];exact NY (j:=1) hj (by omega)
theorem GR.rules(h:GR w gb T N rv RL):au w w.heap.size rv (RL.map fun x=>x.2):=OP h.own fun x hx=>(h.right x hx).1
theorem GR.JN(h:GR w gb T N rv RL):l7 w (gb+1) rv (RL.map fun x=>x.2):=fun w2 h1 h2=>by
 have ho:w2.ownsRow (gb+1) 91 2 rv RL.length (qU RL):=jg h.own fun g hg=>h2 g (h.own.lt g hg).1 (h.own.lt g hg).2;have hr:∀x∈RL,w2.ownsRow (gb+1) 116 2 x.1 x.2.2.length (iy x.2.2)/\∀g,x.1.ownBlock=some g->rv.ownBlock≠some g:=fun x hx=>⟨jg (h.right x hx).1 fun g hg=>h2 g ((h.right x hx).1.lt g hg).1 ((h.right x hx).1.lt g hg).2,(h.right x hx).2⟩;exact OP ho fun x hx=>(hr x hx).1
theorem GR.but(h:GR w gb T N rv RL){b:Nat}(hb:But b w w')(hlt:b<gb):GR w' gb T N rv RL:=
 ⟨(hb.block _ h.lt (by omega)).trans h.at_,jg h.own fun g hg=>hb.block g (h.own.lt g hg).2 (by have:=(h.own.lt g hg).1;omega),fun x hx=>⟨jg (h.right x hx).1 fun g hg=>hb.block g ((h.right x hx).1.lt g hg).2 (by have:=((h.right x hx).1.lt g hg).1;omega),(h.right x hx).2⟩⟩
theorem JO{p:Nat}{a0 a1 a2 b0 b1 A0 A1 A2 B0 B1:Value}(y0:w.heap[p]?=some (.cells #[a0,a1,a2] 26 (0,0)))(y1:w.heap[p+1]?=some (.cells #[b0,b1] 50 (0,0))):
 ∃u W,((((w.setCell ⟨p,0,none⟩ A0).setCell ⟨p,1,none⟩ A1).setCell ⟨p,2,none⟩ A2).setCell ⟨p+1,0,none⟩ B0).setCell ⟨p+1,1,none⟩ B1=W/\W.heap[p]?=some (.cells #[A0,A1,A2] 26 (0,0))/\W.heap[p+1]?=some (.cells #[B0,B1] 50 (0,0))/\But p w u/\But (p+1) u W/\Below p w W:=by
 have h1:But p w (((w.setCell ⟨p,0,none⟩ A0).setCell ⟨p,1,none⟩ A1).setCell ⟨p,2,none⟩ A2):=((But.set _ _ _).trans (But.set _ _ _)).trans (But.set _ _ _);have h2:=Lib.heap_setCell_same (i:=2) (Lib.heap_setCell_same (i:=1) (Lib.heap_setCell_same (i:=0) y0 A0) A1) A2;have hl1:=(Array.getElem?_eq_some_iff.1 y1).1;have h3:=(h1.block (p+1) hl1 (by omega)).trans y1;have h4:But (p+1) (((w.setCell ⟨p,0,none⟩ A0).setCell ⟨p,1,none⟩ A1).setCell ⟨p,2,none⟩ A2) _:=(But.set (p+1) 0 B0).trans (But.set (p+1) 1 B1);refine⟨_,_,rfl,(h4.block p (Array.getElem?_eq_some_iff.1 h2).1 (by omega)).trans h2,Lib.heap_setCell_same (i:=1) (Lib.heap_setCell_same (i:=0) h3 B0) B1,h1,h4,?_⟩;exact(h1.below (Nat.le_refl _) (by omega)).trans (h4.below (by omega) (by have:=h1.size;omega))
theorem XJ{s:List UInt8}(hs:s.length<=9223372036854775807)(hok:uL s=true):Calls Tryz.prog 25 #[.string ⟨s.toArray⟩] w fun e w'=> ∃rv,e= .returned (.tuple #[.agg #[.int .i64 ((bJ s).1.1:Nat),.int .i64 ((bJ s).1.2.1:Nat),rv],.agg #[.int .i64 0,.int .i64 0]])/\l7 w' w.heap.size rv (bJ s).1.2.2/\Below w.heap.size w w':=by
 obtain⟨p,hp⟩:∃x,w.heap.size=x:=⟨_,rfl⟩;obtain⟨W1,hW1⟩:∃V,(w.alloc (.cells #[.int .i64 0,.int .i64 0,.slice none 0 0] 26)).alloc (.cells #[.int .i64 0,.int .i64 0] 50)=V:=⟨_,rfl⟩
 have hx0:W1.heap[p]?=some (.cells #[.int .i64 0,.int .i64 0,.slice none 0 0] 26 (0,0)):=by
  rw[<-hW1,<-hp];exact(Below.heap_alloc _ _ _ (by simp)).trans (heap_alloc_new w _)
 have hx1:W1.heap[p+1]?=some (.cells #[.int .i64 0,.int .i64 0] 50 (0,0)):=by
  have:=heap_alloc_new (w.alloc (.cells #[.int .i64 0,.int .i64 0,.slice none 0 0] 26)) (.cells #[.int .i64 0,.int .i64 0] 50);rw[hW1]at this;simpa [hp] using this
 have hz1:W1.heap.size=p+2:=by rw[<-hW1];simp[hp]
 have hB1:Below p w W1:=by rw[<-hW1,<-hp];exact((Below.refl _ _).alloc (Nat.le_refl _) _).alloc (by simp) _
 have H1:Hid (W1.heap[p]?=some (.cells #[.int .i64 0,.int .i64 0,.slice none 0 0] 26 (0,0))/\W1.heap[p+1]?=some (.cells #[.int .i64 0,.int .i64 0] 50 (0,0))/\W1.heap.size=p+2/\Below p w W1):=⟨hx0,hx1,hz1,hB1⟩;have HW:Hid ((w.alloc (.cells #[.int .i64 0,.int .i64 0,.slice none 0 0] 26)).alloc (.cells #[.int .i64 0,.int .i64 0] 50)=W1/\w.heap.size=p):=⟨hW1,hp⟩;have rls:=JI (w:=W1) hs;rw[hz1]at rls;obtain⟨⟨⟨T,N,R⟩,k,ok⟩,hall⟩:∃x,bJ s=x:=⟨_,rfl⟩;unfold uL at hok;rw[hall]at hok rls⊢;simp only[Bool.and_eq_true]at hok;obtain⟨hok1,hok2⟩:=hok;simp only at rls hok1 hok2⊢;subst hok1;have HM:Hid (aD (T:Int) (N:Int) R=true):=hok2;clear hx0 hx1 hz1 hB1 hW1 hp hall hok2 hs;rw[HW.out.2]
 go_enter Tryz.func25,Tryz.ntmps25
 go_upto_region 1 with fail
 rw[HW.out.1];rw[HW.out.2];clear HW
 go_wp2_with
  (first
   |(go_at_call 48;refine rls.mono ?_;rintro e w2 ⟨rv,RL,rfl,h2,h3,h4⟩
     obtain⟨ra,rc,aG⟩:=qm h2.own;subst aG;have hR2:=h2.rules;rw[h3]at hR2;have Co:=hR2.boxed (.cells #[.int .i64 (T:Int),.int .i64 (N:Int),.slice ra RL.length rc] 26);have may:=lm (T:=(T:Int)) (N:=(N:Int)) Co;have H2:Hid (GR w2 (p+2) T N (.slice ra RL.length rc) RL/\RL.map (fun x=>x.2)=R/\Below (p+2) W1 w2):=⟨h2,h3,h4⟩;rw[HM.out]at may
     clear rls h2 h3 h4 hR2 Co)
   |(go_at_call 49;refine may.mono ?_;rintro e w4 ⟨rfl,h4⟩
     obtain⟨W3,hW3⟩:∃V,w2.alloc (.cells #[.int .i64 (T:Int),.int .i64 (N:Int),.slice ra RL.length rc] 26)=V:=⟨_,rfl⟩;have hx3:=heap_alloc_new w2 (.cells #[.int .i64 (T:Int),.int .i64 (N:Int),.slice ra RL.length rc] 26);rw[hW3]at hx3 h4;have hB3:Below w2.heap.size w2 W3:=by rw[<-hW3];exact(Below.refl _ _).alloc (Nat.le_refl _) _
     have hy:=(h4.block _ (Array.getElem?_eq_some_iff.1 hx3).1).trans hx3;have hB4:Below w2.heap.size w2 w4:=hB3.trans (h4.mono hB3.size);have hsz2:p+2<=w2.heap.size:=by have:=H2.out.2.2.size;have:=H1.out.2.2.1;omega
     have y0:=(hB4.block p (by omega)).trans ((H2.out.2.2.block p (by omega)).trans H1.out.1);have y1:=(hB4.block (p+1) (by omega)).trans ((H2.out.2.2.block (p+1) (by omega)).trans H1.out.2.1)
     have H4:Hid (GR w4 (p+2) T N (.slice ra RL.length rc) RL/\w4.heap[p]?=some (.cells #[.int .i64 0,.int .i64 0,.slice none 0 0] 26 (0,0))/\w4.heap[p+1]?=some (.cells #[.int .i64 0,.int .i64 0] 50 (0,0))/\Below p w w4):=
      ⟨H2.out.1.later hB4,y0,y1,H1.out.2.2.2.trans ((H2.out.2.2.mono (by omega)).trans (hB4.mono (by omega)))⟩
     have u0:=ai (i:=0) hy rfl;have u1:=ai (i:=1) hy rfl;have u2:=ai (i:=2) hy rfl;have c0:=ai (i:=0) y0 rfl;have c1:=ai (i:=1) y0 rfl;have c2:=ai (i:=2) y0 rfl;have f0:=bD (i:=0) y0;have f1:=bD (i:=1) y0;have f2:=bD (i:=2) y0;have d0:=ai (i:=0) y1 rfl;have d1:=ai (i:=1) y1 rfl;have g0:=bD (i:=0) y1;have g1:=bD (i:=1) y1
     clear may h4 hx3 hB3 hy hB4 hsz2 y0 y1 hW3))
 obtain⟨u,W5,jG,q0,q1,hu1,hu2,ak⟩:=JO (A0:= .int .i64 (T:Int)) (A1:= .int .i64 (N:Int)) (A2:= .slice ra RL.length rc) (B0:= .int .i64 0) (B1:= .int .i64 0) H4.out.2.1 H4.out.2.2.1;rw[jG];have x0:=ai (i:=0) q0 rfl;have x1:=ai (i:=1) q0 rfl;have x2:=ai (i:=2) q0 rfl;have x3:=ai (i:=0) q1 rfl;have x4:=ai (i:=1) q1 rfl;refine bodyPost_ret (v:= .tuple #[.agg #[.int .i64 (T:Int),.int .i64 (N:Int),.slice ra RL.length rc],.agg #[.int .i64 0,.int .i64 0]]) (by simp[results,Tryz.results25,go_sem,x0,x1,x2,x3,x4]) rfl ⟨.slice ra RL.length rc,rfl,?_,H4.out.2.2.2.trans ak⟩;have:=((H4.out.1.but hu1 (by omega)).but hu2 (by omega)).JN;rw[H2.out.2.1]at this;exact this.on (by omega) (Nat.le_refl _) fun _ _ _=>rfl
theorem XK{s:List UInt8}(hs:s.length<=9223372036854775807)(hok1:(bJ s).2.2=true)(hok2:aD ((bJ s).1.1:Nat) ((bJ s).1.2.1:Nat) (bJ s).1.2.2=false):Calls Tryz.prog 25 #[.string ⟨s.toArray⟩] w fun e w'=>e= .returned (.tuple #[.agg #[.int .i64 0,.int .i64 0,.slice none 0 0],.agg #[.int .i64 2,.int .i64 ((bJ s).2.1:Nat)]])/\Below w.heap.size w w':=by
 obtain⟨p,hp⟩:∃x,w.heap.size=x:=⟨_,rfl⟩;obtain⟨W1,hW1⟩:∃V,(w.alloc (.cells #[.int .i64 0,.int .i64 0,.slice none 0 0] 26)).alloc (.cells #[.int .i64 0,.int .i64 0] 50)=V:=⟨_,rfl⟩
 have hx0:W1.heap[p]?=some (.cells #[.int .i64 0,.int .i64 0,.slice none 0 0] 26 (0,0)):=by
  rw[<-hW1,<-hp];exact(Below.heap_alloc _ _ _ (by simp)).trans (heap_alloc_new w _)
 have hx1:W1.heap[p+1]?=some (.cells #[.int .i64 0,.int .i64 0] 50 (0,0)):=by
  have:=heap_alloc_new (w.alloc (.cells #[.int .i64 0,.int .i64 0,.slice none 0 0] 26)) (.cells #[.int .i64 0,.int .i64 0] 50);rw[hW1]at this;simpa [hp] using this
 have hz1:W1.heap.size=p+2:=by rw[<-hW1];simp[hp]
 have hB1:Below p w W1:=by rw[<-hW1,<-hp];exact((Below.refl _ _).alloc (Nat.le_refl _) _).alloc (by simp) _
 have H1:Hid (W1.heap[p]?=some (.cells #[.int .i64 0,.int .i64 0,.slice none 0 0] 26 (0,0))/\W1.heap[p+1]?=some (.cells #[.int .i64 0,.int .i64 0] 50 (0,0))/\W1.heap.size=p+2/\Below p w W1):=⟨hx0,hx1,hz1,hB1⟩;have HW:Hid ((w.alloc (.cells #[.int .i64 0,.int .i64 0,.slice none 0 0] 26)).alloc (.cells #[.int .i64 0,.int .i64 0] 50)=W1/\w.heap.size=p):=⟨hW1,hp⟩;have rls:=JI (w:=W1) hs;rw[hz1]at rls;obtain⟨⟨⟨T,N,R⟩,k,ok⟩,hall⟩:∃x,bJ s=x:=⟨_,rfl⟩;rw[hall]at hok1 hok2 rls⊢;simp only at rls hok1 hok2⊢;subst hok1;have HM:Hid (aD (T:Int) (N:Int) R=false):=hok2;clear hx0 hx1 hz1 hB1 hW1 hp hall hok2 hs;rw[HW.out.2]
 go_enter Tryz.func25,Tryz.ntmps25
 go_upto_region 1 with fail
 rw[HW.out.1];rw[HW.out.2];clear HW
 go_wp2_with
  (first
   |(go_at_call 48;refine rls.mono ?_;rintro e w2 ⟨rv,RL,rfl,h2,h3,h4⟩
     obtain⟨ra,rc,aG⟩:=qm h2.own;subst aG;have hR2:=h2.rules;rw[h3]at hR2;have Co:=hR2.boxed (.cells #[.int .i64 (T:Int),.int .i64 (N:Int),.slice ra RL.length rc] 26);have may:=lm (T:=(T:Int)) (N:=(N:Int)) Co;have H2:Hid (GR w2 (p+2) T N (.slice ra RL.length rc) RL/\RL.map (fun x=>x.2)=R/\Below (p+2) W1 w2):=⟨h2,h3,h4⟩;rw[HM.out]at may
     clear rls h2 h3 h4 hR2 Co)
   |(go_at_call 49;refine may.mono ?_;rintro e w4 ⟨rfl,h4⟩
     obtain⟨W3,hW3⟩:∃V,w2.alloc (.cells #[.int .i64 (T:Int),.int .i64 (N:Int),.slice ra RL.length rc] 26)=V:=⟨_,rfl⟩;have hx3:=heap_alloc_new w2 (.cells #[.int .i64 (T:Int),.int .i64 (N:Int),.slice ra RL.length rc] 26);rw[hW3]at hx3 h4;have hB3:Below w2.heap.size w2 W3:=by rw[<-hW3];exact(Below.refl _ _).alloc (Nat.le_refl _) _
     have hy:=(h4.block _ (Array.getElem?_eq_some_iff.1 hx3).1).trans hx3;have hB4:Below w2.heap.size w2 w4:=hB3.trans (h4.mono hB3.size);have hsz2:p+2<=w2.heap.size:=by have:=H2.out.2.2.size;have:=H1.out.2.2.1;omega
     have y0:=(hB4.block p (by omega)).trans ((H2.out.2.2.block p (by omega)).trans H1.out.1);have y1:=(hB4.block (p+1) (by omega)).trans ((H2.out.2.2.block (p+1) (by omega)).trans H1.out.2.1)
     have H4:Hid (GR w4 (p+2) T N (.slice ra RL.length rc) RL/\w4.heap[p]?=some (.cells #[.int .i64 0,.int .i64 0,.slice none 0 0] 26 (0,0))/\w4.heap[p+1]?=some (.cells #[.int .i64 0,.int .i64 0] 50 (0,0))/\Below p w w4):=
      ⟨H2.out.1.later hB4,y0,y1,H1.out.2.2.2.trans ((H2.out.2.2.mono (by omega)).trans (hB4.mono (by omega)))⟩
     have u0:=ai (i:=0) hy rfl;have u1:=ai (i:=1) hy rfl;have u2:=ai (i:=2) hy rfl;have c0:=ai (i:=0) y0 rfl;have c1:=ai (i:=1) y0 rfl;have c2:=ai (i:=2) y0 rfl;have f0:=bD (i:=0) y0;have f1:=bD (i:=1) y0;have f2:=bD (i:=2) y0;have d0:=ai (i:=0) y1 rfl;have d1:=ai (i:=1) y1 rfl;have g0:=bD (i:=0) y1;have g1:=bD (i:=1) y1
     clear may h4 hx3 hB3 hy hB4 hsz2 y0 y1 hW3))
 obtain⟨u,W5,jG,q0,q1,hu1,hu2,ak⟩:=JO (A0:= .int .i64 0) (A1:= .int .i64 0) (A2:= .slice none 0 0) (B0:= .int .i64 2) (B1:= .int .i64 (k:Int)) H4.out.2.1 H4.out.2.2.1;rw[jG];have x0:=ai (i:=0) q0 rfl;have x1:=ai (i:=1) q0 rfl;have x2:=ai (i:=2) q0 rfl;have x3:=ai (i:=0) q1 rfl;have x4:=ai (i:=1) q1 rfl;exact bodyPost_ret (v:= .tuple #[.agg #[.int .i64 0,.int .i64 0,.slice none 0 0],.agg #[.int .i64 2,.int .i64 (k:Int)]]) (by simp[results,Tryz.results25,go_sem,x0,x1,x2,x3,x4]) rfl ⟨rfl,H4.out.2.2.2.trans ak⟩
theorem XL{s:List UInt8}(hs:s.length<=9223372036854775807)(hok1:(bJ s).2.2=false):Calls Tryz.prog 25 #[.string ⟨s.toArray⟩] w fun e w'=>e= .returned (.tuple #[.agg #[.int .i64 0,.int .i64 0,.slice none 0 0],.agg #[.int .i64 2,.int .i64 ((bJ s).2.1:Nat)]])/\Below w.heap.size w w':=by
 obtain⟨p,hp⟩:∃x,w.heap.size=x:=⟨_,rfl⟩;obtain⟨W1,hW1⟩:∃V,(w.alloc (.cells #[.int .i64 0,.int .i64 0,.slice none 0 0] 26)).alloc (.cells #[.int .i64 0,.int .i64 0] 50)=V:=⟨_,rfl⟩
 have hx0:W1.heap[p]?=some (.cells #[.int .i64 0,.int .i64 0,.slice none 0 0] 26 (0,0)):=by
  rw[<-hW1,<-hp];exact(Below.heap_alloc _ _ _ (by simp)).trans (heap_alloc_new w _)
 have hx1:W1.heap[p+1]?=some (.cells #[.int .i64 0,.int .i64 0] 50 (0,0)):=by
  have:=heap_alloc_new (w.alloc (.cells #[.int .i64 0,.int .i64 0,.slice none 0 0] 26)) (.cells #[.int .i64 0,.int .i64 0] 50);rw[hW1]at this;simpa [hp] using this
 have hz1:W1.heap.size=p+2:=by rw[<-hW1];simp[hp]
 have hB1:Below p w W1:=by rw[<-hW1,<-hp];exact((Below.refl _ _).alloc (Nat.le_refl _) _).alloc (by simp) _
 have H1:Hid (W1.heap[p]?=some (.cells #[.int .i64 0,.int .i64 0,.slice none 0 0] 26 (0,0))/\W1.heap[p+1]?=some (.cells #[.int .i64 0,.int .i64 0] 50 (0,0))/\W1.heap.size=p+2/\Below p w W1):=⟨hx0,hx1,hz1,hB1⟩;have HW:Hid ((w.alloc (.cells #[.int .i64 0,.int .i64 0,.slice none 0 0] 26)).alloc (.cells #[.int .i64 0,.int .i64 0] 50)=W1/\w.heap.size=p):=⟨hW1,hp⟩;have rls:=JI (w:=W1) hs;rw[hz1]at rls;obtain⟨⟨⟨T,N,R⟩,k,ok⟩,hall⟩:∃x,bJ s=x:=⟨_,rfl⟩;rw[hall]at hok1 rls⊢;simp only at rls hok1⊢;subst hok1;clear hx0 hx1 hz1 hB1 hW1 hp hall hs;rw[HW.out.2]
 go_enter Tryz.func25,Tryz.ntmps25
 go_upto_region 1 with fail
 rw[HW.out.1];rw[HW.out.2];clear HW
 go_upto_region 3 with
  (go_at_call 48;refine rls.mono ?_;rintro e w2 ⟨rv,RL,rfl,h2,h3,h4⟩
   obtain⟨ra,rc,aG⟩:=qm h2.own;subst aG;have hsz2:p+2<=w2.heap.size:=by have:=h4.size;have:=H1.out.2.2.1;omega
   have y0:=(Below.heap_alloc w2 (.cells #[.int .i64 (T:Int),.int .i64 (N:Int),.slice ra RL.length rc] 26) p (by omega)).trans ((h4.block p (by omega)).trans H1.out.1);have y1:=(Below.heap_alloc w2 (.cells #[.int .i64 (T:Int),.int .i64 (N:Int),.slice ra RL.length rc] 26) (p+1) (by omega)).trans ((h4.block (p+1) (by omega)).trans H1.out.2.1);have hB4:Below p w (w2.alloc (.cells #[.int .i64 (T:Int),.int .i64 (N:Int),.slice ra RL.length rc] 26)):=(H1.out.2.2.2.trans (h4.mono (by omega))).alloc (by omega) _;obtain⟨W3,hW3⟩:∃V,w2.alloc (.cells #[.int .i64 (T:Int),.int .i64 (N:Int),.slice ra RL.length rc] 26)=V:=⟨_,rfl⟩;have HW3:Hid (w2.alloc (.cells #[.int .i64 (T:Int),.int .i64 (N:Int),.slice ra RL.length rc] 26)=W3):=hW3;rw[hW3]at y0 y1 hB4;have H4:Hid (W3.heap[p]?=some (.cells #[.int .i64 0,.int .i64 0,.slice none 0 0] 26 (0,0))/\W3.heap[p+1]?=some (.cells #[.int .i64 0,.int .i64 0] 50 (0,0))/\Below p w W3):=⟨y0,y1,hB4⟩
   clear rls h2 h3 h4 hsz2 y0 y1 hB4 hW3)
 rw[HW3.out];have c0:=ai (i:=0) H4.out.1 rfl;have c1:=ai (i:=1) H4.out.1 rfl;have c2:=ai (i:=2) H4.out.1 rfl;have f0:=bD (i:=0) H4.out.1;have f1:=bD (i:=1) H4.out.1;have f2:=bD (i:=2) H4.out.1;have d0:=ai (i:=0) H4.out.2.1 rfl;have d1:=ai (i:=1) H4.out.2.1 rfl;have g0:=bD (i:=0) H4.out.2.1;have g1:=bD (i:=1) H4.out.2.1
 go_wp2_with fail
 obtain⟨u,W5,jG,q0,q1,hu1,hu2,ak⟩:=JO (A0:= .int .i64 0) (A1:= .int .i64 0) (A2:= .slice none 0 0) (B0:= .int .i64 2) (B1:= .int .i64 (k:Int)) H4.out.1 H4.out.2.1;rw[jG];have x0:=ai (i:=0) q0 rfl;have x1:=ai (i:=1) q0 rfl;have x2:=ai (i:=2) q0 rfl;have x3:=ai (i:=0) q1 rfl;have x4:=ai (i:=1) q1 rfl;exact bodyPost_ret (v:= .tuple #[.agg #[.int .i64 0,.int .i64 0,.slice none 0 0],.agg #[.int .i64 2,.int .i64 (k:Int)]]) (by simp[results,Tryz.results25,go_sem,x0,x1,x2,x3,x4]) rfl ⟨rfl,H4.out.2.2.trans ak⟩
end
theorem fV{T N:Nat}{R:List Ru}(h:aD T N R=true):T<=8/\1<=N/\N<=12/\R.length<=40/\
 ∀i,i<R.length->0<=(R.getD i (0,[])).1/\(R.getD i (0,[])).1<(N:Int)/\(R.getD i (0,[])).2.length<=8/\
  ∀s∈(R.getD i (0,[])).2,0<=s.2/\s.2<if s.1 then (T:Int) else (N:Int):=by
 simp only[aD,zW,Bool.and_eq_true,decide_eq_true_eq]at h;obtain⟨⟨h1,h2,h3,h4,h5⟩,h6⟩:=h;refine⟨by omega,by omega,by omega,h5,fun i hi=> ?_⟩;have h7:=List.all_eq_true.1 h6 (R.getD i (0,[])) (by simp[List.getD,hi]);simp only[ji,Bool.and_eq_true,decide_eq_true_eq]at h7;refine⟨h7.1.1,h7.1.2.1,h7.1.2.2,fun s hs=> ?_⟩;have h8:=List.all_eq_true.1 h7.2 s hs;simpa [lg] using h8
structure bQ where
 tx:List UInt8
 T:Nat
 N:Nat
 R:List Ru
structure aZ(w:World)(pb B:Nat)(rv:Value)(p:bQ):Prop where
 at_:w.heap[pb]?=some (.cells #[.int .i64 p.T,.int .i64 p.N,rv,.string ⟨p.tx.toArray⟩] 28 (0,0))
 lt:pb<B
 rules:l7 w B rv p.R
 good:p.N=0\/aD p.T p.N p.R=true
def Bh(w:World)(B:Nat)(rv:Value)(p:bQ)(B':Nat)(rv':Value)(p':bQ):Prop:=(B'=B/\rv'=rv/\p'.R=p.R)\/w.heap.size<=B'
section
variable{w w':World}{pb B G:Nat}{rv:Value}{p:bQ}
theorem aZ.below(h:aZ w pb B rv p):pb<w.heap.size:=(Array.getElem?_eq_some_iff.1 h.at_).1
theorem aZ.later(h:aZ w pb B rv p)(hb:Below w.heap.size w w'):aZ w' pb B rv p:=
 ⟨(hb.block _ h.below).trans h.at_,h.lt,h.rules.on (Nat.le_refl _) hb.size fun k _ hk=>hb.block k hk,h.good⟩
theorem aZ.text(h:aZ w pb B rv p)(s:List UInt8):aZ (w.setCell ⟨pb,3,none⟩ (.string ⟨s.toArray⟩)) pb B rv { p with tx:=s }:=by
 have hb:But pb w (w.setCell ⟨pb,3,none⟩ (.string ⟨s.toArray⟩)):=But.set _ _ _;have hlt:=h.lt;exact⟨Lib.heap_setCell_same h.at_ _,h.lt,h.rules.on (Nat.le_refl _) hb.size fun k h1 h2=>hb.block k h2 (by omega),h.good⟩
theorem aZ.OQ(h:aZ w pb B rv p){T N:Nat}{rv':Value}{R:List Ru}{B':Nat}(hR:l7 w B' rv' R)(hB:pb<B')(hm:aD T N R=true):aZ (((w.setCell ⟨pb,0,none⟩ (.int .i64 T)).setCell ⟨pb,1,none⟩ (.int .i64 N)).setCell ⟨pb,2,none⟩ rv') pb B' rv' ⟨p.tx,T,N,R⟩:=by
 have hb:But pb w (((w.setCell ⟨pb,0,none⟩ (.int .i64 T)).setCell ⟨pb,1,none⟩ (.int .i64 N)).setCell ⟨pb,2,none⟩ rv'):=((But.set _ _ _).trans (But.set _ _ _)).trans (But.set _ _ _);exact⟨Lib.heap_setCell_same (i:=2) (Lib.heap_setCell_same (i:=1) (Lib.heap_setCell_same (i:=0) h.at_ _) _) _,hB,hR.on (Nat.le_refl _) hb.size fun k h1 h2=>hb.block k h2 (by omega),.inr hm⟩
theorem aZ.cells(h:aZ w pb B rv p):w.cell? ⟨pb,0,none⟩=some (.int .i64 p.T)/\w.cell? ⟨pb,1,none⟩=some (.int .i64 p.N)/\w.cell? ⟨pb,2,none⟩=some rv/\w.cell? ⟨pb,3,none⟩=some (.string ⟨p.tx.toArray⟩):=
 ⟨ai h.at_ rfl,ai h.at_ rfl,ai h.at_ rfl,ai h.at_ rfl⟩
theorem cB.but(h:cB G w)(hb:But pb w w')(hG:G<=pb)(hG2:pb<w.heap.size):cB G w':=h.on fun k hk=>hb.block k (by omega) (by omega)
theorem OT(w:World)(x:Int):aP (w.alloc (.cells #[.int .i64 x] 3)) (w.alloc (.cells #[.int .i64 x] 3)).heap.size (.slice (some ⟨w.heap.size,0,none⟩) 1 1) [x]:=by
 refine⟨⟨_,_,rfl⟩,fun p hp=> ?_⟩;have:p=0:=by simpa using hp
 subst this;exact⟨w.heap.size,0,1,rfl,by simp,ai (heap_alloc_new w _) rfl⟩
theorem wH{u:List UInt8}{x:Int}(hu:u.length<=1000)(hE:cB G w)(hG:G<=w.heap.size)(hx:fQ x):Calls Tryz.prog 24 #[.string ⟨u.toArray⟩,.slice (some ⟨w.heap.size,0,none⟩) 1 1] (w.alloc (.cells #[.int .i64 x] 3)) fun e w'=>e= .returned (.string ⟨(dI u [x]).toArray⟩)/\Below w.heap.size w w':=by
 have hb:Below w.heap.size w (w.alloc (.cells #[.int .i64 x] 3)):=(Below.refl _ _).alloc (Nat.le_refl _) _;refine(OC hu (hE.below hb hG) (Nat.le_trans hG hb.size) (OT w x) (by simp) (fun y hy=>by rw[List.mem_singleton.1 hy];exact hx)).mono fun e w' ⟨h1,h2⟩=>⟨h1,hb.trans (h2.mono hb.size)⟩
theorem XM{bs:List UInt8}(h:aZ w pb B rv p)(hE:cB G w)(hG:G<=pb)(hl:p.tx.length+bs.length<=4611686018427387904):Calls Tryz.prog 12 #[.pointer (some ⟨pb,0,none⟩),.string ⟨bs.toArray⟩] w fun e w'=>e= .returned (.string ⟨(dI [111,107] [((p.tx++(bs++[10])).length:Int)]).toArray⟩)/\aZ w' pb B rv { p with tx:=p.tx++(bs++[10]) }/\But pb w w':=by
 obtain⟨T,hT⟩:∃x,p.tx++(bs++[10])=x:=⟨_,rfl⟩;have XO:T.length=p.tx.length+bs.length+1:=by rw[<-hT];simp;omega
 obtain⟨y,hy⟩:∃x,bs++[10]=x:=⟨_,rfl⟩;have hyl:y.length=bs.length+1:=by rw[<-hy];simp
 have add1:=yF (P:=Tryz.prog) bs [10] (by simp;omega);rw[hy]at add1 hT;have add2:=yF (P:=Tryz.prog) p.tx y (by omega);rw[hT]at add2;obtain⟨-,-,-,c3⟩:=h.cells;have f3:=bD (i:=3) h.at_;obtain⟨W1,hW1⟩:∃V,w.setCell ⟨pb,3,none⟩ (.string ⟨T.toArray⟩)=V:=⟨_,rfl⟩;have h1:=h.text T;rw[hW1]at h1;have hb1:But pb w W1:=by rw[<-hW1];exact But.set _ _ _
 obtain⟨-,-,-,c31⟩:=h1.cells;have afI:W1.cell? ⟨pb,3,none⟩=some (.string ⟨T.toArray⟩):=c31;have td:=wH (u:=[111,107]) (x:=(T.length:Int)) (by simp) (hE.but hb1 hG h.below) (by have:=h1.below;omega) ⟨by omega,by omega⟩;have HP:Hid (aZ W1 pb B rv { p with tx:=T }/\But pb w W1):=⟨h1,hb1⟩;rw[hy,hT];clear h hE hT XO hy hyl h1 hb1 c31
 go_enter Tryz.func12,Tryz.ntmps12
 go_wp2_with
  (go_at_call 24;refine td.mono ?_;rintro e w3 ⟨rfl,h3⟩
   have H3:Hid (Below W1.heap.size W1 w3):=h3
   clear td h3)
 go_ret;exact⟨rfl,HP.out.1.later H3.out,HP.out.2.trans (But.of pb H3.out)⟩
theorem XP(h:aZ w pb B rv p):Calls Tryz.prog 13 #[.pointer (some ⟨pb,0,none⟩)] w fun e w'=>e= .returned (.string ⟨#[111,107]⟩)/\aZ w' pb B rv { p with tx:=[] }/\But pb w w':=by
 obtain⟨-,-,-,c3⟩:=h.cells;have f3:=bD (i:=3) h.at_;have HP:Hid (aZ (w.setCell ⟨pb,3,none⟩ (.string ⟨#[]⟩)) pb B rv { p with tx:=[] }/\But pb w (w.setCell ⟨pb,3,none⟩ (.string ⟨#[]⟩))):=⟨h.text [],But.set _ _ _⟩;clear h
 go_enter Tryz.func13,Tryz.ntmps13
 go_wp2_with fail
 go_ret;exact⟨rfl,HP.out⟩
def uM(p:bQ):bQ:=if uL p.tx=true then ⟨p.tx,(bJ p.tx).1.1,(bJ p.tx).1.2.1,(bJ p.tx).1.2.2⟩ else p
def wI(p:bQ):List UInt8:=if uL p.tx=true then dI [111,107] [((bJ p.tx).1.2.2.length:Int)] else dI [98,97,100] [((bJ p.tx).2.1:Int)]
theorem OU(s:List UInt8):(bJ s).2.1<=s.length:=by
 have key:∀(f:Nat) (s:List UInt8) (k T N:Nat) (R:List Ru),(qV f s k T N R).2.1<=k+s.length:=by
  intro f
  induction f with
  |zero=>intro s k T N R;simp[qV]
  |succ f ih=>
   intro s k T N R;rw[qV];split
   ·simp
   ·split
    ·simp
    ·rename_i a r hc
     have hl:=congrArg List.length (Oz hc).2;simp only[List.length_append,List.length_cons]at hl;split
     ·split
      ·have:=ih r 1 (kW a) (hdN a) R
       omega
      ·simp
     ·split
      ·have:=ih r (k+1) T N (lZ a R)
       omega
      ·simp
 have:=key (s.length+1) s 0 0 0 [];unfold bJ;omega
theorem OV(w:World)(a b c d e:Value):∃q W,w.heap.size=q/\(w.alloc (.cells #[a,b,c] 26)).alloc (.cells #[d,e] 50)=W/\W.heap[q]?=some (.cells #[a,b,c] 26 (0,0))/\W.heap[q+1]?=some (.cells #[d,e] 50 (0,0))/\Below w.heap.size w W:=by
 refine⟨_,_,rfl,rfl,(Below.heap_alloc _ _ _ (by simp)).trans (heap_alloc_new w _),?_,((Below.refl _ _).alloc (Nat.le_refl _) _).alloc (by simp) _⟩;have:=heap_alloc_new (w.alloc (.cells #[a,b,c] 26)) (.cells #[d,e] 50);simpa using this
theorem XQ(h:aZ w pb B rv p)(hE:cB G w)(hG:G<=pb)(hl:p.tx.length<=4611686018427387904):Calls Tryz.prog 14 #[.pointer (some ⟨pb,0,none⟩)] w fun e w'=>e= .returned (.string ⟨(wI p).toArray⟩)/\(∃B' rv',aZ w' pb B' rv' (uM p)/\Bh w B rv p B' rv' (uM p))/\But pb w w':=by
 obtain⟨-,-,-,c3⟩:=h.cells;have hpb:=h.below;cases hok:uL p.tx with
 |false=>
  have HO:Hid (wI p=dI [98,97,100] [((bJ p.tx).2.1:Int)]/\uM p=p):=by
   refine⟨?_,?_⟩
   ·unfold wI;rw[hok];rfl
   ·unfold uM;rw[hok];rfl
  have hk:=OU p.tx
  have pa:Calls Tryz.prog 25 #[.string ⟨p.tx.toArray⟩] w fun e w'=>e= .returned (.tuple #[.agg #[.int .i64 0,.int .i64 0,.slice none 0 0],.agg #[.int .i64 2,.int .i64 ((bJ p.tx).2.1:Nat)]])/\Below w.heap.size w w':=by
   cases h5:(bJ p.tx).2.2 with
   |false=>exact XL (w:=w) (by omega) h5
   |true=>exact XK (w:=w) (by omega) h5 (by unfold uL at hok;rw[h5,Bool.true_and]at hok;exact hok)
  obtain⟨k,hkk⟩:∃k,(bJ p.tx).2.1=k:=⟨_,rfl⟩;rw[hkk]at pa hk HO
  have HT:Hid (∀wq,Below w.heap.size w wq->Calls Tryz.prog 24 #[.string ⟨#[98,97,100]⟩,.slice (some ⟨wq.heap.size,0,none⟩) 1 1] (wq.alloc (.cells #[.int .i64 (k:Int)] 3)) fun e w'=>e= .returned (.string ⟨(dI [98,97,100] [(k:Int)]).toArray⟩)/\Below wq.heap.size wq w'):=fun wq hq=>
   wH (u:=[98,97,100]) (by simp) (hE.below hq (by omega)) (by have:=hq.size;omega) ⟨by omega,by omega⟩
  have HP:Hid (aZ w pb B rv p):=h;clear h hE hkk hok
  go_enter Tryz.func14,Tryz.ntmps14
  go_upto_region 2 with
   (go_at_call 25;refine pa.mono ?_;rintro e w2 ⟨rfl,h2⟩
    clear pa)
  obtain⟨q,W3,hq,hW,hx0,hx1,hb⟩:=OV w2 (.int .i64 0) (.int .i64 0) (.slice none 0 0) (.int .i64 2) (.int .i64 (k:Int));rw[hW];rw[hq];have h3:=h2.trans (hb.mono h2.size);have td:=HT.out _ h3;have H3:Hid (Below w.heap.size w W3):=h3;have u0:=ai (i:=0) hx1 rfl;have u1:=ai (i:=1) hx1 rfl;clear h2 hq hW hx0 hx1 hb h3
  go_wp2_with
   (go_at_call 24;refine td.mono ?_;rintro e w4 ⟨rfl,h4⟩
    have H4:Hid (Below w.heap.size w w4):=H3.out.trans (h4.mono H3.out.size)
    clear td h4)
  go_ret;exact⟨by rw[HO.out.1];rfl,⟨B,rv,by rw[HO.out.2];exact HP.out.later H4.out,.inl ⟨rfl,rfl,by rw[HO.out.2]⟩⟩,But.of pb H4.out⟩
 |true=>
  have HO:Hid (wI p=dI [111,107] [((bJ p.tx).1.2.2.length:Int)]/\uM p=⟨p.tx,(bJ p.tx).1.1,(bJ p.tx).1.2.1,(bJ p.tx).1.2.2⟩):=by
   refine⟨?_,?_⟩
   ·unfold wI;rw[hok];rfl
   ·unfold uM;rw[hok];rfl
  have pa:=XJ (w:=w) (s:=p.tx) (by omega) hok
  have hm:aD ((bJ p.tx).1.1:Nat) ((bJ p.tx).1.2.1:Nat) (bJ p.tx).1.2.2=true:=by
   unfold uL at hok;simp only[Bool.and_eq_true]at hok;exact hok.2
  obtain⟨⟨⟨T,N,R⟩,k,z⟩,hall⟩:∃x,bJ p.tx=x:=⟨_,rfl⟩;rw[hall]at pa hm HO;simp only at pa hm HO;have zT:=(fV hm).2.2.2.1;have HM:Hid (aD (T:Int) (N:Int) R=true):=hm
  have HT:Hid (∀wq,But pb w wq->Calls Tryz.prog 24 #[.string ⟨#[111,107]⟩,.slice (some ⟨wq.heap.size,0,none⟩) 1 1] (wq.alloc (.cells #[.int .i64 (R.length:Int)] 3)) fun e w'=>e= .returned (.string ⟨(dI [111,107] [(R.length:Int)]).toArray⟩)/\Below wq.heap.size wq w'):=fun wq hq=>
   wH (u:=[111,107]) (by simp) (hE.but hq hG hpb) (by have:=hq.size;omega) ⟨by omega,by omega⟩
  have HP:Hid (aZ w pb B rv p):=h;clear h hE hall hok hm
  go_enter Tryz.func14,Tryz.ntmps14
  go_upto_region 2 with
   (go_at_call 25;refine pa.mono ?_;rintro e w2 ⟨rv',rfl,hr2,h2⟩
    obtain⟨ra,rc,aG⟩:=hr2.at.1;subst aG
    clear pa)
  obtain⟨q,W3,hq,hW,hx0,hx1,hb⟩:=OV w2 (.int .i64 (T:Int)) (.int .i64 (N:Int)) (.slice ra R.length rc) (.int .i64 0) (.int .i64 0);rw[hW];rw[hq];have hP3:=(HP.out.later h2).later hb;have l8:=hP3.OQ (T:=T) (N:=N) (hr2.on (Nat.le_refl _) hb.size fun k _ hk=>hb.block k hk) hpb HM.out;obtain⟨W4,dD⟩:∃V,((W3.setCell ⟨pb,0,none⟩ (.int .i64 T)).setCell ⟨pb,1,none⟩ (.int .i64 N)).setCell ⟨pb,2,none⟩ (.slice ra R.length rc)=V:=⟨_,rfl⟩;rw[dD]at l8
  have hb4:But pb w W4:=by
   rw[<-dD];exact(But.of pb (h2.trans (hb.mono h2.size))).trans (((But.set _ _ _).trans (But.set _ _ _)).trans (But.set _ _ _))
  have td:=HT.out W4 hb4;obtain⟨p0,p1,p2,p3⟩:=hP3.cells;have f0:=bD (i:=0) hP3.at_;have f1:=bD (i:=1) hP3.at_;have f2:=bD (i:=2) hP3.at_;obtain⟨-,-,r2,-⟩:=l8.cells;have u0:=ai (i:=0) hx0 rfl;have u1:=ai (i:=1) hx0 rfl;have u2:=ai (i:=2) hx0 rfl;have v0:=ai (i:=0) hx1 rfl;have HW:Hid (((W3.setCell ⟨pb,0,none⟩ (.int .i64 T)).setCell ⟨pb,1,none⟩ (.int .i64 N)).setCell ⟨pb,2,none⟩ (.slice ra R.length rc)=W4):=dD;have H4:Hid (aZ W4 pb w.heap.size (.slice ra R.length rc) ⟨p.tx,T,N,R⟩/\But pb w W4):=⟨l8,hb4⟩;clear hr2 h2 hq hW hx0 hx1 hb hP3 l8 hb4 dD
  go_upto_region 5 with fail
  rw[HW.out];clear p0 p1 p2 p3 f0 f1 f2 u0 u1 u2 v0 HW
  go_wp2_with
   (go_at_call 24;refine td.mono ?_;rintro e w5 ⟨rfl,h5⟩
    have H5:Hid (Below W4.heap.size W4 w5):=h5
    clear td h5)
  go_ret;exact⟨by rw[HO.out.1];rfl,⟨w.heap.size,.slice ra R.length rc,by rw[HO.out.2];exact H4.out.1.later H5.out,.inr (Nat.le_refl _)⟩,H4.out.2.trans (But.of pb H5.out)⟩
end
theorem Tryz.infoInt:(Tryz.prog.info? 3).map (fun i=>(i.zero,i.size,i.bytes))=some (some (.int .i64 0),1,8):=by kernel_rfl
theorem OW(n:Nat)(hn:n<=1000000)(u:World):(Instr.makeSlice 59 (.int .i64 n) (.int .i64 n)).run Tryz.prog u= .ok (.slice (some ⟨u.heap.size,0,none⟩) n n) (u.alloc (.cells (madeCells #[.int .i64 0] n) 3)):=by
 obtain⟨i0,hi,hz0,hz1,hz2⟩:=info_parts Tryz.infoInt;have h:=run_make (P:=Tryz.prog) u 59 3 i0 (.int .i64 0) Tryz.underlying59 hi hz0 .i64 .i64 n n (by omega) (Int.le_refl _) (by rw[hz2];omega) (by omega);simpa [hz1,Value.cells] using h
def dR(w:World)(B g N:Nat)(O:List Int):Prop:=w.ownsRow B 3 1 (.slice (some ⟨g,0,none⟩) N N) N (O.map (Value.int .i64))
section
variable{w w':World}{B g N:Nat}{O:List Int}
theorem dR.len(h:dR w B g N O):O.length=N:=by
 have:(O.map (Value.int .i64)).length=N*1:=h.1;simpa using this
theorem dR.cell(h:dR w B g N O){m:Nat}(hm:m<N):w.cell? ⟨g,m,none⟩=some (.int .i64 (O.getD m 0))/\w.frozen? ⟨g,m,none⟩=false:=by
 have hl:=h.len;refine⟨?_,World.ownsRow.frozenAt h m⟩;rw[World.ownsRow.cellAt h m (by omega)];simp[List.getD,show m<O.length by omega]
theorem dR.set(h:dR w B g N O)(m:Nat)(v:Int):dR (w.setCell ⟨g,m,none⟩ (.int .i64 v)) B g N (O.set m v):=by
 have:=(World.ownsRow.stored h m (.int .i64 v)).1;unfold dR
 rwa [List.map_set]
theorem dR.below(h:dR w B g N O)(hb:Below w.heap.size w w'):dR w' B g N O:=own_below h hb fun k hk=>(World.ownsRow.lt h k hk).2
theorem dR.mono{B':Nat}(h:dR w B g N O)(hB:B'<=B):dR w B' g N O:=jf h hB
theorem dR.list(h:dR w B g N O):aP w w.heap.size (.slice (some ⟨g,0,none⟩) N N) O:=by
 have hl:=h.len;refine⟨⟨_,_,by rw[hl]⟩,fun i hi=>⟨g,0,N,by rw[hl],?_,?_⟩⟩
 ·exact World.block_lt_of_cell? w _ (h.cell (m:=i) (by omega)).1
 ·rw[Nat.zero_add]
  exact(h.cell (by omega)).1
end
theorem OX(w:World){N:Nat}(hN:N<=maxLen):dR (w.alloc (.cells (madeCells #[.int .i64 0] N) 3)) w.heap.size w.heap.size N (List.replicate N 0):=by
 have:=World.ownsRow_lit (base:=w.heap.size) (e:=3) (size:=1) w (madeCells #[.int .i64 0] N) N (Nat.le_refl _) hN (by simp[size_madeCells]);rw[toList_madeCells_one]at this;unfold dR;simpa using this
end Go.Proofs.YtblkkhfdeaaidaaGreatDoor
namespace Go.Proofs.YtblkkhfdeaaidaaGreatDoor
open Classical
def Lv(F:(Int->Prop)->Int->Prop):Nat->Int->Prop
 |0,_=>False
 |k+1,n=>F (Lv F k) n
structure uN(N:Nat)(F:(Int->Prop)->Int->Prop):Prop where
 mono:∀A B:Int->Prop,(∀n,A n->B n)->∀n,F A n->F B n
 bound:∀A n,F A n->0<=n/\n<(N:Int)
theorem Cq{N:Nat}{F:(Int->Prop)->Int->Prop}(h:uN N F):∀k n,Lv F k n->Lv F (k+1) n:=by
 intro k
 induction k with
 |zero=>intro n hn;exact hn.elim
 |succ k ih=>intro n hn;exact h.mono _ _ ih n hn
theorem XR{N:Nat}{F:(Int->Prop)->Int->Prop}(h:uN N F){k m:Nat}(hkm:k<=m):∀n,Lv F k n->Lv F m n:=by
 induction hkm with
 |refl=>intro n hn;exact hn
 |step _ ih=>intro n hn;exact Cq h _ n (ih n hn)
noncomputable def cnt(N:Nat)(A:Int->Prop):Nat:=((List.range N).filter fun i=>decide (A (i:Nat))).length
theorem XT(N:Nat)(A:Int->Prop):cnt N A<=N:=by
 have:=List.length_filter_le (fun i:Nat=>decide (A i)) (List.range N);simpa [cnt] using this
theorem filter_lt{α:Type}(p q:α->Bool)(h:∀x,p x=true->q x=true):∀(l:List α),
 (l.filter p).length<=(l.filter q).length/\((∃x∈l,q x=true/\p x=false)->(l.filter p).length<(l.filter q).length):=by
 intro l
 induction l with
 |nil=>simp
 |cons a r ih=>
  obtain⟨ih1,ih2⟩:=ih;cases hp:p a with
  |true=>
   have hq:=h a hp;simp only[List.filter_cons,hp,hq,if_true,List.length_cons];refine⟨by omega,?_⟩;rintro ⟨x,hx,h1,h2⟩
   have:x∈r:=by
    rcases List.mem_cons.1 hx with rfl|hx
    ·rw[hp]at h2;cases h2
    ·exact hx
   have:=ih2 ⟨x,this,h1,h2⟩;omega
  |false=>
   cases hq:q a with
   |true=>
    simp only[List.filter_cons,hp,hq,if_true,List.length_cons,Bool.false_eq_true,if_false];exact⟨by omega,fun _=>by omega⟩
   |false=>
    simp only[List.filter_cons,hp,hq,Bool.false_eq_true,if_false];refine⟨ih1,?_⟩;rintro ⟨x,hx,h1,h2⟩
    have:x∈r:=by
     rcases List.mem_cons.1 hx with rfl|hx
     ·rw[hq]at h1;cases h1
     ·exact hx
    exact ih2 ⟨x,this,h1,h2⟩
theorem cnt_lt{N:Nat}{A B:Int->Prop}(h:∀n,A n->B n){n:Int}(h0:0<=n)(h1:n<(N:Int))(hb:B n)(ha:¬A n):cnt N A<cnt N B:=by
 obtain⟨k,rfl⟩:∃k:Nat,n=k:=⟨n.toNat,by omega⟩;refine(filter_lt (fun i:Nat=>decide (A i)) (fun i:Nat=>decide (B i)) (fun x hx=> ?_) (List.range N)).2 ⟨k,List.mem_range.2 (by omega),?_,?_⟩
 ·simp only[decide_eq_true_eq]at hx⊢;exact h _ hx
 ·simpa using hb
 ·simpa using ha
theorem XU{N:Nat}{F:(Int->Prop)->Int->Prop}(h:uN N F):∀m n,Lv F m n->Lv F N n:=by
 have ex:∃k,k<=N/\∀n,Lv F (k+1) n->Lv F k n:=by
  refine byContradiction fun hno=> ?_
  have grow:∀k,k<=N+1->k<=cnt N (Lv F k):=by
   intro k
   induction k with
   |zero=>intro _;exact Nat.zero_le _
   |succ k ih=>
    intro hk;have h1:=ih (by omega)
    have h2:∃n,Lv F (k+1) n/\¬Lv F k n:=by
     refine byContradiction fun hn=>hno ⟨k,by omega,fun n hn'=>byContradiction fun hc=>hn ⟨n,hn',hc⟩⟩
    obtain⟨n,h3,h4⟩:=h2;have hb:=h.bound _ n h3;have:=cnt_lt (Cq h k) hb.1 hb.2 h3 h4;omega
  have h1:=grow (N+1) (Nat.le_refl _);have h2:=XT N (Lv F (N+1));omega
 obtain⟨k,hk,hstop⟩:=ex
 have all:∀m n,Lv F m n->Lv F k n:=by
  intro m
  induction m with
  |zero=>intro n hn;exact hn.elim
  |succ m ih=>intro n hn;exact hstop n (h.mono _ _ ih n hn)
 exact fun m n hn=>XR h hk n (all m n hn)
theorem lu{N:Nat}{F:(Int->Prop)->Int->Prop}(h:uN N F):∀n,F (Lv F N) n->Lv F N n:=fun n hn=>XU h (N+1) n hn
theorem Cr{F:(Int->Prop)->Int->Prop}(mono:∀A B:Int->Prop,(∀n,A n->B n)->∀n,F A n->F B n){A:Int->Prop}(hA:∀n,F A n->A n):∀k n,Lv F k n->A n:=by
 intro k
 induction k with
 |zero=>intro n hn;exact hn.elim
 |succ k ih=>intro n hn;exact hA n (mono _ _ ih n hn)
def jS(A:Int->Prop)(l:List Sy):Prop:=∀s∈l,s.1=false/\A s.2
def yG(R:List Ru)(A:Int->Prop)(n:Int):Prop:=∃r∈R,r.1=n/\jS A r.2
def jT(Nu A:Int->Prop)(t:Int)(l:List Sy):Prop:=∃i s,l[i]?=some s/\((s.1=true/\s.2=t)\/(s.1=false/\A s.2))/\jS Nu (l.take i)
def wJ(R:List Ru)(Nu:Int->Prop)(t:Int)(A:Int->Prop)(n:Int):Prop:=∃r∈R,r.1=n/\jT Nu A t r.2
def uO(R:List Ru)(Nu:Int->Prop)(Fi:Int->Int->Prop)(T t:Int)(A:Int->Prop)(n:Int):Prop:=
 (n=0/\t=T)\/∃r∈R,∃k,r.2[k]?=some (false,n)/\((t<T/\jT Nu (Fi t) t (r.2.drop (k+1)))\/(jS Nu (r.2.drop (k+1))/\A r.1))
theorem jS.mono{A B:Int->Prop}(h:∀n,A n->B n){l:List Sy}(hl:jS A l):jS B l:=fun s hs=>⟨(hl s hs).1,h _ (hl s hs).2⟩
theorem jT.mono{Nu A B:Int->Prop}{t:Int}(h:∀n,A n->B n){l:List Sy}(hl:jT Nu A t l):jT Nu B t l:=by
 obtain⟨i,s,h1,h2,h3⟩:=hl;refine⟨i,s,h1,?_,h3⟩;rcases h2 with h2|⟨h2,h4⟩
 ·exact .inl h2
 ·exact .inr ⟨h2,h _ h4⟩
theorem OY(R:List Ru)(A B:Int->Prop)(h:∀n,A n->B n)(n:Int)(hn:yG R A n):yG R B n:=by
 obtain⟨r,h1,h2,h3⟩:=hn;exact⟨r,h1,h2,h3.mono h⟩
theorem OZ(R:List Ru)(Nu:Int->Prop)(t:Int)(A B:Int->Prop)(h:∀n,A n->B n)(n:Int)(hn:wJ R Nu t A n):wJ R Nu t B n:=by
 obtain⟨r,h1,h2,h3⟩:=hn;exact⟨r,h1,h2,h3.mono h⟩
theorem O0(R:List Ru)(Nu:Int->Prop)(Fi:Int->Int->Prop)(T t:Int)(A B:Int->Prop)(h:∀n,A n->B n)(n:Int)(hn:uO R Nu Fi T t A n):uO R Nu Fi T t B n:=by
 rcases hn with hn|⟨r,h1,k,h2,h3⟩
 ·exact .inl hn
 ·refine .inr ⟨r,h1,k,h2,?_⟩
  rcases h3 with h3|⟨h3,h4⟩
  ·exact .inl h3
  ·exact .inr ⟨h3,h _ h4⟩
structure bM(T N:Nat)(R:List Ru):Prop where
 left:∀r∈R,0<=r.1/\r.1<(N:Int)
 name:∀r∈R,∀s∈r.2,s.1=false->0<=s.2/\s.2<(N:Int)
 term:∀r∈R,∀s∈r.2,s.1=true->0<=s.2/\s.2<(T:Int)
 some:1<=N
section
variable{T N:Nat}{R:List Ru}(h:bM T N R)
include h
theorem O1:uN N (yG R):=⟨fun A B=>OY R A B,fun A n hn=>by obtain⟨r,h1,rfl,_⟩:=hn;exact h.left r h1⟩
theorem JQ(Nu:Int->Prop)(t:Int):uN N (wJ R Nu t):=⟨fun A B=>OZ R Nu t A B,fun A n hn=>by obtain⟨r,h1,rfl,_⟩:=hn;exact h.left r h1⟩
theorem Cs(Nu:Int->Prop)(Fi:Int->Int->Prop)(t:Int):uN N (uO R Nu Fi T t):=⟨fun A B=>O0 R Nu Fi T t A B,fun A n hn=>by
 rcases hn with⟨rfl,_⟩|⟨r,h1,k,h2,_⟩
 ·have:=h.some;omega
 ·exact h.name r h1 _ (List.mem_of_getElem? h2) rfl⟩
end
def dM(N:Nat)(R:List Ru):Int->Prop:=Lv (yG R) N
def gW(N:Nat)(R:List Ru)(t:Int):Int->Prop:=Lv (wJ R (dM N R) t) N
def nK(T N:Nat)(R:List Ru)(t:Int):Int->Prop:=Lv (uO R (dM N R) (gW N R) T t) N
end Go.Proofs.YtblkkhfdeaaidaaGreatDoor
