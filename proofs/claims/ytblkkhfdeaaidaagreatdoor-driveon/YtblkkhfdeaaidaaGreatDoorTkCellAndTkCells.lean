import Derived.Test.YtblkkhfdeaaidaaGreatDoorTkFindAndOfMem6
set_option maxHeartbeats 6400000
set_option maxRecDepth 100000
namespace Go.Proofs.YtblkkhfdeaaidaaGreatDoor
open Go.RowKit
def Says(G:Wy->Option Value)(p:Wy)(z:Int):Prop:=G p=some (.int .i64 z)\/(G p=none/\z= -1)
theorem Te{w0 w:World}{d:eD}{v:bS}{G:Wy->Option Value}{ng:Nat}{st:LS}{k:Nat}{sb:Bool}{sv z:Int}(h:aj w0 w d v G ng st)(hk:k<=1000)(h0:0<=sv)(h1:sv<=1000)(ol:ng<=10000000)(hz:Says G (k,(sb,sv)) z):
 Calls Tryz.prog 108 #[.pointer (some ⟨d.ma,0,none⟩),.int .i64 k,.agg #[.bool sb,.int .i64 sv]] w fun e w'=>e= .returned (.int .i64 z)/\Below w.heap.size w w':=by
 have hM:=h.alloc (.cells #[.bool sb,.int .i64 sv] 116);have l1:=hM.drew.RP (p:=(k,(sb,sv))) hk h0 h1 ol true;have c7:=(hM.cell (i:=7) rfl (by omega)).1;unfold o7 at l1;simp only[if_true]at l1;have hb:Below w.heap.size w (w.alloc (.cells #[.bool sb,.int .i64 sv] 116)).drew:=((Below.refl _ _).alloc (Nat.le_refl _) _).drew;rcases hz with hz|⟨hz,rfl⟩
 ·rw[hz]at l1
  simp only[Option.getD_some,Option.isSome_some]at l1;have HB:Hid (Below w.heap.size w (w.alloc (.cells #[.bool sb,.int .i64 sv] 116)).drew):=hb;clear h hM hz hb
  go_enter Tryz.func108,Tryz.ntmps108
  go_wp2_with fail
  go_region
  all_goals
   go_wp2_with fail
   go_ret;exact⟨rfl,HB.out⟩
 ·rw[hz]at l1
  simp only[Option.getD_none,Option.isSome_none]at l1;have HB:Hid (Below w.heap.size w (w.alloc (.cells #[.bool sb,.int .i64 sv] 116)).drew):=hb;clear h hM hz hb
  go_enter Tryz.func108,Tryz.ntmps108
  go_wp2_with fail
  go_region
  all_goals
   go_wp2_with fail
   go_ret;exact⟨rfl,HB.out⟩
theorem abD{N n:Nat}{Z:Nat->Int}:((List.range N).map fun j=>if j<n then Z j else 0).set n (Z n)=(List.range N).map fun j=>if j<n+1 then Z j else 0:=by
 apply List.ext_getElem (by simp);intro i h1 h2;simp only[List.length_set,List.length_map,List.length_range]at h1;rw[List.getElem_set];simp only[List.getElem_map,List.getElem_range];by_cases e:n=i
 ·subst e;simp
 ·rw[if_neg e]
  by_cases h:i<n
  ·rw[if_pos h,if_pos (by omega)]
  ·rw[if_neg h,if_neg (by omega)]
theorem abE{w0 w:World}{d:eD}{v:bS}{G:Wy->Option Value}{ng:Nat}{st:LS}{k:Nat}{Z:Nat->Int}(h:aj w0 w d v G ng st)(hN:d.N<=12)(hN1:1<=d.N)(hk:k<=1000)(ol:ng<=10000000)(hZ:∀n,n<d.N->Says G (k,(false,(n:Int))) (Z n)):
 Calls Tryz.prog 86 #[.pointer (some ⟨d.ma,0,none⟩),.int .i64 k] w fun e w'=> ∃g,e= .returned (.slice (some ⟨g,0,none⟩) d.N d.N)/\dR w' w.heap.size g d.N ((List.range d.N).map Z)/\Below w.heap.size w w':=by
 have c1:=(h.cell (i:=1) rfl (by omega)).1;have HM:Hid (aj w0 w d v G ng st):=h;have HZ:Hid (∀n,n<d.N->Says G (k,(false,(n:Int))) (Z n)):=hZ;have wK:=OW d.N (by omega)
 have Bb:Hid (dR (w.alloc (.cells (madeCells #[.int .i64 0] d.N) 3)) w.heap.size w.heap.size d.N ((List.range d.N).map fun j=>if j<0 then Z j else 0)):=by
  have:=OX w (N:=d.N) (by unfold maxLen;omega)
  have e:((List.range d.N).map fun j=>if j<0 then Z j else 0)=List.replicate d.N 0:=by
   apply List.ext_getElem (by simp);intro i h1 h2;simp
  show dR _ _ _ _ _;rw[e];exact this
 have HB0:Hid (Below w.heap.size w (w.alloc (.cells (madeCells #[.int .i64 0] d.N) 3))):=(Below.refl _ _).alloc (Nat.le_refl _) _;clear h hZ
 go_enter Tryz.func86,Tryz.ntmps86
 go_wp2_with fail
 clear wK c1;generalize w.alloc (.cells (madeCells #[.int .i64 0] d.N) 3)=W1 at Bb HB0⊢;obtain⟨g,hg⟩:∃g,w.heap.size=g:=⟨_,rfl⟩;have HGB:Hid (w.heap.size=g):=hg;rw[show (Value.slice (some { block:=w.heap.size,off:=0 }) d.N d.N)=(Value.slice (some { block:=g,off:=0 }) d.N d.N) by rw[hg]];rw[show dR W1 w.heap.size w.heap.size d.N ((List.range d.N).map fun j=>if j<0 then Z j else 0)=dR W1 w.heap.size g d.N ((List.range d.N).map fun j=>if j<0 then Z j else 0) by rw[hg]]at Bb;clear hg
 go_loopw [15] (fun s15 wr=> ∃n:Nat,s15= .int .i64 n/\n<=d.N/\dR wr w.heap.size g d.N ((List.range d.N).map fun j=>if j<n then Z j else 0)/\Below w.heap.size w wr) (fun s _=>d.N-(intOf s).toNat)
 case atStart=>exact⟨0,rfl,Nat.zero_le _,Bb.out,HB0.out⟩
 case round=>
  obtain⟨n,rfl,hn,hR,hB⟩:=hrel;have HR:Hid (dR wr w.heap.size g d.N ((List.range d.N).map fun j=>if j<n then Z j else 0)):=hR;have HB:Hid (Below w.heap.size w wr):=hB;by_cases hlt:n<d.N
  ·have got:=Te (HM.out.below hB) hk (sb:=false) (sv:=(n:Int)) (by omega) (by omega) ol (HZ.out n hlt)
   obtain⟨z,hz⟩:∃z,Z n=z:=⟨_,rfl⟩;rw[hz]at got;have GK:Hid (Z n=z):=hz;have hgl:g<wr.heap.size:=(World.ownsRow.lt hR g rfl).2;obtain⟨x0,xf⟩:=hR.cell hlt;have HS:=abD (N:=d.N) (n:=n) (Z:=Z);have i0:(0:Int)<=(n:Int):=Int.natCast_nonneg _;have i1:(n:Int)<(d.N:Int):=by omega
   have HS':Hid (((List.range d.N).map fun j=>if j<n then Z j else 0).set n z=(List.range d.N).map fun j=>if j<n+1 then Z j else 0):=by rw[<-hz];exact HS
   obtain⟨y,hy⟩:∃y,((List.range d.N).map fun j=>if j<n then Z j else 0).getD n 0=y:=⟨_,rfl⟩;rw[hy]at x0;clear hR hB hz HS hy
   go_wp2_with
    (go_at_call 108;refine got.mono ?_;rintro e w2 ⟨rfl,hB2⟩
     have x2:=(hB2.cell (p:=⟨g,n,none⟩) hgl).trans x0;have f2:=(hB2.frozen (p:=⟨g,n,none⟩) hgl).trans xf;have HR2:Hid (dR w2 w.heap.size g d.N ((List.range d.N).map fun j=>if j<n then Z j else 0)):=HR.out.below hB2;have HB2:Hid (Below w.heap.size w w2):=HB.out.trans (hB2.mono HB.out.size)
     clear hB2)
   go_roundw
   case rel=>exact⟨n+1,by go_num,by omega,by rw[<-HS'.out];exact HR2.out.set n z,HB2.out.setCell (by simp only;have:=HGB.out;omega) _⟩
   case measure=>simp[intOf];omega
  ·obtain rfl:n=d.N:=by omega
   have HE:Hid (((List.range d.N).map fun j=>if j<d.N then Z j else 0)=(List.range d.N).map Z):=List.map_congr_left fun j hj=>by rw[if_pos (List.mem_range.1 hj)]
   clear hR hB
   go_wp2_with fail
   go_ret;exact⟨g,rfl,by rw[<-HE.out];exact HR.out,HB.out⟩
inductive Lp where
 |cl
 |rl (n:Nat)
 deriving DecidableEq
def mK(vr:Nat->Value)(f:Nat->Ce)(M:Nat):List Value:=(List.range M).flatMap fun n=>[.int .i64 (f n).1,vr n,.bool (f n).2.2]
theorem y9(vr:Nat->Value)(f:Nat->Ce)(M:Nat):(mK vr f M).length=M*3:=by
 induction M with
 |zero=>rfl
 |succ m ih=>
  unfold mK at ih⊢;rw[List.range_succ,List.flatMap_append,List.length_append,ih];simp;omega
theorem Bc{vr:Nat->Value}{f:Nat->Ce}{M i o:Nat}(hi:i<M)(ho:o<3):(mK vr f M)[i*3+o]?=[Value.int .i64 (f i).1,vr i,.bool (f i).2.2][o]?:=by
 induction M with
 |zero=>omega
 |succ m ih=>
  have e:mK vr f (m+1)=mK vr f m++[.int .i64 (f m).1,vr m,.bool (f m).2.2]:=by unfold mK;rw[List.range_succ,List.flatMap_append];simp
  rw[e];rcases Nat.lt_succ_iff_lt_or_eq.1 hi with h|rfl
  ·rw[List.getElem?_append_left (by rw[y9];omega)]
   exact ih h
  ·rw[List.getElem?_append_right (by rw[y9];omega),y9]
   simp
theorem Tf{vr kg:Nat->Value}{f f':Nat->Ce}{M n o:Nat}{u:Value}(ho:o<3)(hother:∀i,i≠n->kg i=vr i/\f' i=f i)(hat:[Value.int .i64 (f' n).1,kg n,.bool (f' n).2.2]=[Value.int .i64 (f n).1,vr n,.bool (f n).2.2].set o u):
 (mK vr f M).set (n*3+o) u=mK kg f' M:=by
 apply List.ext_getElem?;intro t;by_cases ht:t<M*3
 ·have hi:t/3<M:=by omega
  have hr:t%3<3:=by omega
  have et:t=t/3*3+t%3:=by omega
  have h2:=Bc (vr:=kg) (f:=f') hi hr;rw[<-et]at h2;rw[h2,List.getElem?_set];by_cases e:n*3+o=t
  ·have e1:t/3=n:=by omega
   have e2:t%3=o:=by omega
   rw[if_pos e,if_pos (by rw[y9];omega),e1,e2,hat,List.getElem?_set_self (by simpa using ho)]
  ·rw[if_neg e]
   have h1:=Bc (vr:=vr) (f:=f) hi hr;rw[<-et]at h1;rw[h1];by_cases e1:t/3=n
   ·have e2:o≠t%3:=by omega
    rw[e1,hat,List.getElem?_set_ne e2]
   ·obtain⟨a,b⟩:=hother _ e1
    rw[a,b]
 ·rw[List.getElem?_eq_none (by rw[List.length_set,y9];omega),List.getElem?_eq_none (by rw[y9];omega)]
def bE(cg:Nat)(vr:Nat->Value)(f:Nat->Ce)(M:Nat):Lp->Option Row
 | .cl=>some ⟨.slice (some ⟨cg,0,none⟩) M M,112,3,M,mK vr f M⟩
 | .rl n=>if n<M then some ⟨vr n,3,1,(f n).2.1.length,(f n).2.1.map (Value.int .i64)⟩ else none
def dG{α:Type}(f:Nat->α)(n:Nat)(c:α):Nat->α:=fun i=>if i=n then c else f i
def jM(R:List Ru)(r:Nat)(c:Ce):Ce:=if r=R.length then (c.1,c.2.1,true) else (c.1,c.2.1++[(r:Int)],c.2.2)
section
variable{w w':World}{B cg M n:Nat}{vr:Nat->Value}{f:Nat->Ce}
theorem Lr(h:ah w B (bE cg vr f M))(hn:n<M):w.cell? ⟨cg,n*3,none⟩=some (.int .i64 (f n).1)/\w.cell? ⟨cg,n*3+1,none⟩=some (vr n)/\w.cell? ⟨cg,n*3+2,none⟩=some (.bool (f n).2.2)/\(∀o,w.frozen? ⟨cg,o,none⟩=false)/\B<=cg/\cg<w.heap.size:=by
 have hr:w.ownsRow B 112 3 (.slice (some ⟨cg,0,none⟩) M M) M (mK vr f M):=h.own .cl _ rfl;refine⟨?_,?_,?_,fun o=>hr.frozenAt o,(hr.lt cg rfl).1,(hr.lt cg rfl).2⟩
 ·rw[hr.cellAt _ (by omega)];exact Bc (o:=0) hn (by omega)
 ·rw[hr.cellAt _ (by omega)];exact Bc (o:=1) hn (by omega)
 ·rw[hr.cellAt _ (by omega)];exact Bc (o:=2) hn (by omega)
theorem GU(h:ah w B (bE cg vr f M))(hn:n<M):w.ownsRow B 3 1 (vr n) (f n).2.1.length ((f n).2.1.map (Value.int .i64)):=h.own (.rl n) ⟨vr n,3,1,(f n).2.1.length,(f n).2.1.map (Value.int .i64)⟩ (by simp[bE,hn])
theorem Tg(h:ah w B (bE cg vr f M))(hn:n<M){o:Nat}(ho:o<3){u:Value}{c:Ce}(hr:c.2.1=(f n).2.1)(hat:[Value.int .i64 c.1,vr n,.bool c.2.2]=[Value.int .i64 (f n).1,vr n,.bool (f n).2.2].set o u):ah (w.setCell ⟨cg,n*3+o,none⟩ u) B (bE cg vr (dG f n c) M):=by
 have h1:=h.store (i:= .cl) (g:=cg) (n:=M) (cap:=M) (e:=112) (size:=3) (xs:=mK vr f M) rfl (n*3+o) u
 have e:upd (bE cg vr f M) .cl ⟨.slice (some ⟨cg,0,none⟩) M M,112,3,M,(mK vr f M).set (n*3+o) u⟩=bE cg vr (dG f n c) M:=by
  rw[Tf (f':=dG f n c) (kg:=vr) ho (fun i hi=>⟨rfl,by simp[dG,hi]⟩) (by simp only[dG,if_true];exact hat)]
  funext i
  cases i with
  |cl=>simp[upd,bE]
  |rl i=>
   by_cases hi:i=n
   ·subst hi;simp[upd,bE,dG,hr]
   ·simp[upd,bE,dG,hi]
 rwa [e]at h1
theorem abF(h:ah w B (bE cg vr f M))(hn:n<M){nv:Value}{r:Int}(hg:w.grownBy w' (vr n).ownBlock)(ho:w'.ownsRow B 3 1 nv ((f n).2.1.length+1) ((f n).2.1.map (Value.int .i64)++[.int .i64 r]))(hat:∀g,nv.ownBlock=some g->(vr n).ownBlock=some g\/g=w.heap.size):
 ah (w'.setCell ⟨cg,n*3+1,none⟩ nv) B (bE cg (dG vr n nv) (dG f n ((f n).1,(f n).2.1++[r],(f n).2.2)) M):=by
 have h1:=h.turn (i:= .rl n) (r:=⟨vr n,3,1,(f n).2.1.length,(f n).2.1.map (Value.int .i64)⟩) (r':=⟨nv,3,1,(f n).2.1.length+1,(f n).2.1.map (Value.int .i64)++[.int .i64 r]⟩) (by simp[bE,hn]) hg ho hat;have h2:=h1.store (i:= .cl) (g:=cg) (n:=M) (cap:=M) (e:=112) (size:=3) (xs:=mK vr f M) (by simp[upd,bE]) (n*3+1) nv
 have e:upd (upd (bE cg vr f M) (.rl n) ⟨nv,3,1,(f n).2.1.length+1,(f n).2.1.map (Value.int .i64)++[.int .i64 r]⟩) .cl ⟨.slice (some ⟨cg,0,none⟩) M M,112,3,M,(mK vr f M).set (n*3+1) nv⟩=bE cg (dG vr n nv) (dG f n ((f n).1,(f n).2.1++[r],(f n).2.2)) M:=by
  rw[Tf (f':=dG f n ((f n).1,(f n).2.1++[r],(f n).2.2)) (kg:=dG vr n nv) (by omega) (fun i hi=>⟨by simp[dG,hi],by simp[dG,hi]⟩) (by simp[dG])]
  funext i
  cases i with
  |cl=>simp[upd,bE]
  |rl i=>
   by_cases hi:i=n
   ·subst hi;simp[upd,bE,dG,hn]
   ·simp[upd,bE,dG,hi]
 rwa [e]at h2
end
theorem abG{w:World}{lim ab T N B cg M n r:Nat}{rv:Value}{R:List Ru}{vr:Nat->Value}{f:Nat->Ce}(hA:iC w lim ab T N rv R)(hO:ah w B (bE cg vr f M))(hB:B<=w.heap.size)(hn:n<M)(hl:(f n).2.1.length<=1000):
 Calls Tryz.prog 110 #[.pointer (some ⟨ab,0,none⟩),.pointer (some ⟨cg,n*3,none⟩),.int .i64 r] w fun e w'=>e= .returned (.tuple #[])/\∃kg,ah w' B (bE cg kg (dG f n (jM R r (f n))) M)/\(∀i g,(kg i).ownBlock=some g->(vr i).ownBlock=some g\/w.heap.size<=g)/\Kept (fun b=>b=cg\/(vr n).ownBlock=some b) w w':=by
 have xD:=Gm hA;obtain⟨c0,c1,c2,cf,hcB,hcl⟩:=Lr hO hn;have HO:Hid (ah w B (bE cg vr f M)):=hO;have hrl:=GU hO hn;by_cases hr:r=R.length
 ·subst hr
  have HP:Hid (jM R R.length (f n)=((f n).1,(f n).2.1,true)):=by show jM R R.length (f n)=_;simp[jM]
  have f2:=cf (n*3+2);have e1:((R.length:Int)==(R.length:Int))=true:=by simp
  clear hA hO hrl c0 c1 cf
  go_enter Tryz.func110,Tryz.ntmps110
  go_wp2_with (go_at_call 79;refine xD.mono ?_;rintro e w1 ⟨rfl,rfl⟩)
  refine bodyPost_ret (v:= .tuple #[]) (results_none Tryz.results110 _ _ _) rfl ?_;refine⟨rfl,vr,?_,fun i g hg=> .inl hg,(Kept.refl _ _).setCell (.inl rfl) _⟩;rw[HP.out];exact Tg HO.out hn (by omega) rfl (by simp)
 ·have HP:Hid (jM R r (f n)=((f n).1,(f n).2.1++[(r:Int)],(f n).2.2)):=by show jM R r (f n)=_;simp[jM,hr]
  have e1:((r:Int)==(R.length:Int))=false:=by simpa using fun h=>hr (by omega)
  have f1:=cf (n*3+1);obtain⟨ra,rc,aG⟩:=bK hrl;have dh:=hrl.alloc (.cells #[.int .i64 r] 3);rw[aG]at c1 dh;have D9:Hid (vr n= .slice ra (f n).2.1.length rc):=aG;have iJ:=World.news_of_block (cs:= #[.int .i64 r]) (t:=3) (fr:=(0,0)) (heap_alloc_new w (.cells #[.int .i64 r] 3));have hne:some cg≠(Value.slice ra (f n).2.1.length rc).ownBlock:=fun e=>hO.apart .cl (.rl n) _ ⟨vr n,3,1,(f n).2.1.length,(f n).2.1.map (Value.int .i64)⟩ (by simp) rfl (by simp[bE,hn]) cg rfl (by show (vr n).ownBlock=_;rw[aG];exact e.symm);have HRB:Hid (∀g,(Value.slice ra (f n).2.1.length rc).ownBlock=some g->B<=g):=fun g hg=>by rw[<-aG]at hg;exact(hrl.lt g hg).1
  obtain⟨p,hp⟩:∃p,(f n).2.1.length=p:=⟨_,rfl⟩;rw[hp]at c1 dh hne D9 HRB hl;have GV:Hid ((f n).2.1.length=p):=hp;have n1:p+1<=maxLen:=by unfold maxLen;omega
  have n2:(p+1)*8<=140737488355328:=by omega
  obtain⟨i0,hi0,hz0,hz1,hz2⟩:=info_parts Tryz.infoInt;have c1':(w.alloc (.cells #[.int .i64 r] 3)).cell? ⟨cg,n*3+1,none⟩=some (.slice ra p rc):=(World.cell?_alloc_past _ _ _ hcl).trans c1;have f1':(w.alloc (.cells #[.int .i64 r] 3)).frozen? ⟨cg,n*3+1,none⟩=false:=(((Below.refl _ w).alloc (Nat.le_refl _) _).frozen (p:=⟨cg,n*3+1,none⟩) hcl).trans f1;clear hA hO hrl c0 c2 cf aG hp
  go_enter Tryz.func110,Tryz.ntmps110
  go_wp2_with
   (first
    |(go_at_call 79;refine xD.mono ?_;rintro e w1 ⟨rfl,rfl⟩)
    |(at_builtin
      (refine wpList_append_lies _ rfl _ _ _ rfl B 3 i0 _ 1 8 Tryz.underlying59 hi0 hz0 hz1 hz2 rfl (by omega) (.slice ra p rc) p ((f n).2.1.map (Value.int .i64)) rfl dh ⟨w1.heap.size,0,none⟩ 1 1 [.int .i64 r] rfl rfl iJ (by simp[Value.oneCell']) (by omega) n1 n2 (by simp;omega) (w1.heap.size+1) (by simp) ?_)
      intro g6 cap6 w6 hown6 dO lI rq;have c6:=(dO.cell_far ⟨cg,n*3+1,none⟩ (by simp;omega) hne).trans c1'
      have f6:=(dO.frozen_far ⟨cg,n*3+1,none⟩ (by simp;omega) hne).trans f1'))
  go_end0
  have hal:ah (w1.alloc (.cells #[.int .i64 r] 3)) B (bE cg vr f M):=HO.out.alloc _
  have hfin:=abF (r:=(r:Int)) (nv:= .slice (some ⟨g6,0,none⟩) (p+1) cap6) hal hn (by rw[D9.out];exact dO) (by rw[GV.out];exact hown6) (fun g' hg'=>by
   obtain rfl:g6=g':=by simpa [Value.ownBlock] using hg'
   rw[D9.out]
   simpa using lI)
  refine⟨rfl,_,by rw[HP.out];exact hfin,fun i g hg=> ?_,?_⟩
  ·unfold dG at hg
   split at hg
   ·rename_i e
    subst e;obtain rfl:g6=g:=by simpa [Value.ownBlock] using hg
    rw[D9.out];rcases lI with h5|h5
    ·exact .inl h5
    ·exact .inr (by omega)
   ·exact .inl hg
  ·have k1:Kept (fun b=>b=cg\/(vr n).ownBlock=some b) w1 (w1.alloc (.cells #[.int .i64 r] 3)):=(Kept.refl _ _).alloc _
   have k2:Kept (fun b=>b=cg\/(vr n).ownBlock=some b) (w1.alloc (.cells #[.int .i64 r] 3)) w6:=⟨dO.os,dO.tape,dO.output,dO.size,fun b hb hK=>dO.block b hb fun e=>hK (.inr (by rw[D9.out];exact e.symm))⟩;exact(k1.trans k2).setCell (.inl rfl) _
def lN(R:List Ru)(lk:aN->Nat)(k n:Nat)(it:It):Bool:=decide (it.2=(aH R it.1).length)&&(lk (k,it)).testBit n
def bN(R:List Ru)(lk:aN->Nat)(k n:Nat)(L:List It)(c:Ce):Ce:=L.foldl (fun c it=>if lN R lk k n it then jM R it.1 c else c) c
theorem abH{R:List Ru}{lk:aN->Nat}{k n i:Nat}{O:List It}{c:Ce}{it:It}(hi:i<O.length)(hit:O.getD i (0,0)=it):bN R lk k n (O.take (i+1)) c=if lN R lk k n it then jM R it.1 (bN R lk k n (O.take i) c) else bN R lk k n (O.take i) c:=by
 have e:O[i]=it:=by rw[<-hit,GI hi]
 unfold bN;rw[List.take_succ_eq_append_getElem hi,List.foldl_append,e];rfl
theorem abI(R:List Ru)(r:Nat)(c:Ce):(jM R r c).2.1.length<=c.2.1.length+1:=by unfold jM;split<;>simp
theorem abJ{R:List Ru}{lk:aN->Nat}{k n:Nat}:∀(L:List It) (c:Ce),(bN R lk k n L c).2.1.length<=c.2.1.length+L.length:=by
 intro L
 induction L with
 |nil=>intro c;exact Nat.le_refl _
 |cons it L ih=>
  intro c;have h1:=ih (if lN R lk k n it then jM R it.1 c else c)
  have h2:(if lN R lk k n it then jM R it.1 c else c).2.1.length<=c.2.1.length+1:=by
   split
   ·exact abI _ _ _
   ·omega
  show (bN R lk k n L (if lN R lk k n it then jM R it.1 c else c)).2.1.length<=_;simp only[List.length_cons];omega
theorem xI{cg M:Nat}{vr:Nat->Value}{f f':Nat->Ce}(h:∀n,n<M->f n=f' n):bE cg vr f M=bE cg vr f' M:=by
 funext i
 cases i with
 |cl=>
  simp only[bE]
  congr 2
  unfold mK;simp only[List.flatMap_def]
  congr 1
  exact List.map_congr_left fun n hn=>by rw[h n (List.mem_range.1 hn)]
 |rl n=>
  simp only[bE];by_cases hn:n<M
  ·rw[if_pos hn,if_pos hn,h n hn]
  ·rw[if_neg hn,if_neg hn]
theorem Tryz.infoCe:(Tryz.prog.info? 112).map (fun i=>(i.zero,i.size,i.bytes))=some (some (.agg #[.int .i64 0,.slice none 0 0,.bool false]),3,40):=by kernel_rfl
theorem abK(n:Nat)(hn:n<=1000000)(u:World):(Instr.makeSlice 110 (.int .i64 n) (.int .i64 n)).run Tryz.prog u= .ok (.slice (some ⟨u.heap.size,0,none⟩) n n) (u.alloc (.cells (madeCells #[.int .i64 0,.slice none 0 0,.bool false] (n*3)) 112)):=by
 obtain⟨i0,hi,hz0,hz1,hz2⟩:=info_parts Tryz.infoCe;have h:=run_make (P:=Tryz.prog) u 110 112 i0 (.agg #[.int .i64 0,.slice none 0 0,.bool false]) Tryz.underlying110 hi hz0 .i64 .i64 n n (by omega) (Int.le_refl _) (by rw[hz2];omega) (by omega);simpa [hz1,Value.cells] using h
theorem abL(M:Nat):(madeCells #[.int .i64 0,.slice none 0 0,.bool false] (M*3)).toList=mK (fun _=> .slice none 0 0) (fun _=>(0,[],false)) M:=by
 apply List.ext_getElem?;intro t;by_cases ht:t<M*3
 ·have h1:=Bc (vr:=fun _=> .slice none 0 0) (f:=fun _=>((0,[],false):Ce)) (M:=M) (i:=t/3) (o:=t%3) (by omega) (by omega)
  rw[show t/3*3+t%3=t by omega]at h1;rw[h1];unfold madeCells;have hc:t%3=0\/t%3=1\/t%3=2:=by omega
  rcases hc with e|e|e<;>simp[ht,e]
 ·rw[List.getElem?_eq_none (by simp[size_madeCells];omega),List.getElem?_eq_none (by rw[y9];omega)]
theorem abM(w:World){M:Nat}(hM:M<=100):ah (w.alloc (.cells (madeCells #[.int .i64 0,.slice none 0 0,.bool false] (M*3)) 112)) w.heap.size (bE w.heap.size (fun _=> .slice none 0 0) (fun _=>(0,[],false)) M):=by
 have h1:=World.ownsRow_lit (base:=w.heap.size) (e:=112) (size:=3) w (madeCells #[.int .i64 0,.slice none 0 0,.bool false] (M*3)) M (Nat.le_refl _) (by unfold maxLen;omega) (by simp[size_madeCells]);rw[abL]at h1;refine⟨fun i r hr=> ?_,fun i j a b hij ha hb g h2 h3=> ?_⟩
 ·cases i with
  |cl=>simp only[bE,Option.some.injEq]at hr;subst hr;exact h1
  |rl n=>
   simp only[bE]at hr;split at hr
   ·simp only[Option.some.injEq]at hr;subst hr;exact World.ownsRow_nil _ _ _ _
   ·cases hr
 ·have nil:∀n r,bE w.heap.size (fun _=> .slice none 0 0) (fun _=>(0,[],false)) M (.rl n)=some r->r.v.ownBlock=none:=fun n r hr=>by
   simp only[bE]at hr;split at hr
   ·simp only[Option.some.injEq]at hr;subst hr;rfl
   ·cases hr
  cases i with
  |cl=>
   cases j with
   |cl=>exact hij rfl
   |rl n=>rw[nil n b hb]at h3;cases h3
  |rl n=>rw[nil n a ha]at h2;cases h2
theorem abN{w0 w:World}{d:eD}{v:bS}{G:Wy->Option Value}{ng:Nat}{st:LS}{R:List Ru}{Nu:List Bool}{Fi:List (List Bool)}{Ls:List aI}{k:Nat}{Z:Nat->Int}(E:iT w0 d R Nu Fi)(h:aj w0 w d v G ng st)(hS:iQ R v.OL Ls)(hk:k<v.OL.length)(few:v.OL.length<=150)(ol:ng<=10000000)(hc:st.c<=10000000)(hlk:∀s,st.lk s<512)
 (hZ:∀n,n<=d.T->Says G (k,(true,(n:Int))) (Z n)):
 Calls Tryz.prog 85 #[.pointer (some ⟨d.ma,0,none⟩),.int .i64 k] w fun e w'=> ∃cg vr,e= .returned (.slice (some ⟨cg,0,none⟩) (d.T+1) (d.T+1))/\ah w' w.heap.size (bE cg vr (fun n=>bN R st.lk k n (v.OL.getD k []) (Z n,[],false)) (d.T+1))/\Below w.heap.size w w':=by
 have hT:=E.hT
 have hlen:(v.OL.getD k []).length<=369:=by
  have:=F7 E.yS (hS.jo k hk).qA (hS.ok k hk);have:=E.hR;omega
 have om:Hid (∀t∈v.OL.getD k [],mH R t):=hS.ok k hk;have HE:Hid (iT w0 d R Nu Fi):=E;have HM:Hid (aj w0 w d v G ng st):=h;have HZ:Hid (∀n,n<=d.T->Says G (k,(true,(n:Int))) (Z n)):=hZ;have Kv:Hid (∀s,st.lk s<512):=hlk;have a0:=(h.cell (i:=0) rfl (by omega)).1;have Lu:=abK (d.T+1) (by omega);rw[show ((d.T+1:Nat):Int)=(d.T:Int)+1 from rfl]at Lu
 have xJ:Hid (ah (w.alloc (.cells (madeCells #[.int .i64 0,.slice none 0 0,.bool false] ((d.T+1)*3)) 112)) w.heap.size (bE w.heap.size (fun _=> .slice none 0 0) (fun n=>(if n<0 then Z n else 0,[],false)) (d.T+1))):=by
  show ah _ _ _;have:=abM w (M:=d.T+1) (by omega);rw[xI (f':=fun n=>(if n<0 then Z n else 0,[],false)) (fun n _=>by simp)]at this;exact this
 have HB0:Hid (Below w.heap.size w (w.alloc (.cells (madeCells #[.int .i64 0,.slice none 0 0,.bool false] ((d.T+1)*3)) 112))):=(Below.refl _ _).alloc (Nat.le_refl _) _;have HK:Hid (k<v.OL.length):=hk;obtain⟨M,vG⟩:∃M,d.T+1=M:=⟨_,rfl⟩;have HMT:Hid (d.T+1=M):=vG;have hM8:M<=9:=by omega
 rw[vG]at Lu xJ HB0⊢;clear E h hS hZ hlk vG
 go_enter Tryz.func85,Tryz.ntmps85
 go_wp2_with fail
 clear Lu a0;generalize w.alloc (.cells (madeCells #[.int .i64 0,.slice none 0 0,.bool false] (M*3)) 112)=W1 at xJ HB0⊢;obtain⟨cg,hcg⟩:∃cg,w.heap.size=cg:=⟨_,rfl⟩;rw[show (Value.slice (some { block:=w.heap.size,off:=0 }) M M)=(Value.slice (some { block:=cg,off:=0 }) M M) by rw[hcg]];rw[show bE w.heap.size (fun _=> .slice none 0 0) (fun n=>(if n<0 then Z n else 0,[],false)) M=bE cg (fun _=> .slice none 0 0) (fun n=>(if n<0 then Z n else 0,[],false)) M by rw[hcg]]at xJ;clear hcg
 go_loopw [22] (fun Lx wr=> ∃n:Nat,Lx= .int .i64 n/\n<=M/\ah wr w.heap.size (bE cg (fun _=> .slice none 0 0) (fun j=>(if j<n then Z j else 0,[],false)) M)/\Below w.heap.size w wr) (fun s _=>M-(intOf s).toNat)
 case atStart=>exact⟨0,rfl,Nat.zero_le _,xJ.out,HB0.out⟩
 case round=>
  clear xJ HB0;obtain⟨n,rfl,hn,hO,hB⟩:=hrel;have HO:Hid (ah wr w.heap.size (bE cg (fun _=> .slice none 0 0) (fun j=>(if j<n then Z j else 0,[],false)) M)):=hO;have HB:Hid (Below w.heap.size w wr):=hB;by_cases hlt:n<M
  ·have got:=Te (HM.out.below hB) (k:=k) (by have:=HK.out;omega) (sb:=true) (sv:=(n:Int)) (by omega) (by omega) ol (HZ.out n (by have:=HMT.out;omega))
   obtain⟨z,hz⟩:∃z,Z n=z:=⟨_,rfl⟩;rw[hz]at got;have GK:Hid (Z n=z):=hz;obtain⟨x0,_,_,xf,hcB,hcl⟩:=Lr hO hlt;simp only[Nat.lt_irrefl,if_false]at x0;have xf0:=xf (n*3);have i0:(0:Int)<=(n:Int):=Int.natCast_nonneg _;have i1:(n:Int)<(M:Int):=by omega
   clear hO hB hz xf
   go_wp2_with
    (go_at_call 108;refine got.mono ?_;rintro e w2 ⟨rfl,hB2⟩
     have x2:=(hB2.cell (p:=⟨cg,n*3,none⟩) hcl).trans x0;have f2:=(hB2.frozen (p:=⟨cg,n*3,none⟩) hcl).trans xf0;have AV:Hid (ah w2 w.heap.size (bE cg (fun _=> .slice none 0 0) (fun j=>(if j<n then Z j else 0,[],false)) M)):=HO.out.below hB2 (Nat.le_refl _);have HB2:Hid (Below w.heap.size w w2):=HB.out.trans (hB2.mono HB.out.size)
     clear hB2)
   go_roundw
   case rel=>
    refine⟨n+1,by go_num,by omega,?_,HB2.out.setCell (by simp only;omega) _⟩;have h1:=Tg (c:=(z,[],false)) (u:= .int .i64 z) AV.out hlt (o:=0) (by omega) rfl rfl
    rw[xI (f':=fun j=>(if j<n+1 then Z j else 0,[],false)) (fun j _=>by
     unfold dG;by_cases e:j=n
     ·subst e;rw[if_pos rfl,if_pos (by omega),GK.out]
     ·rw[if_neg e]
      simp only;by_cases e2:j<n
      ·rw[if_pos e2,if_pos (by omega)]
      ·rw[if_neg e2,if_neg (by omega)])]at h1
    exact h1
   case measure=>simp[intOf];omega
  ·obtain rfl:M=n:=by omega
   have hM:=HM.out.below hB;have c6:=(hM.cell (i:=6) rfl (by omega)).1;obtain⟨sg,sc,hsv,_,q0⟩:=hM.state HK.out;rw[hsv]at c6;obtain⟨⟨ia,ic,hiv⟩,_⟩:=hM.items HK.out;rw[hiv]at q0;have DV:Hid (v.IV k= .slice ia (v.OL.getD k []).length ic):=hiv
   have vD:Hid (ah wr w.heap.size (bE cg (fun _=> .slice none 0 0) (fun n=>bN R st.lk k n ((v.OL.getD k []).take 0) (Z n,[],false)) M)):=by
    show ah _ _ _;have:=hO;rw[xI (f':=fun n=>bN R st.lk k n ((v.OL.getD k []).take 0) (Z n,[],false)) (fun j hj=>by simp[bN,hj])]at this;exact this
   obtain⟨O,LA⟩:∃O,v.OL.getD k []=O:=⟨_,rfl⟩;have Ti:Hid (v.OL.getD k []=O):=LA;rw[LA]at q0 DV vD hlen om;have i0:(0:Int)<=(k:Int):=Int.natCast_nonneg _;have i1:(k:Int)<(v.OL.length:Int):=by have:=HK.out;omega
   clear hO hB hM hsv hiv LA HO
   go_wp2_with fail
   clear c6 q0
   go_loopw [43] (fun s43 wq=> ∃(i:Nat) (vr:Nat->Value),s43= .int .i64 i/\i<=O.length/\ah wq w.heap.size (bE cg vr (fun n=>bN R st.lk k n (O.take i) (Z n,[],false)) M)/\Below w.heap.size w wq) (fun s _=>O.length-(intOf s).toNat)
   case atStart=>exact⟨0,_,rfl,Nat.zero_le _,vD.out,HB.out⟩
   case round=>
    clear vD HB;obtain⟨i,vr,rfl,hi,hO,hB⟩:=hrel;have HO:Hid (ah wr w.heap.size (bE cg vr (fun n=>bN R st.lk k n (O.take i) (Z n,[],false)) M)):=hO;have HB:Hid (Below w.heap.size w wr):=hB;by_cases hlt:i<O.length
    ·have hM:=HM.out.below hB
     have hit:=hM.items HK.out;rw[DV.out,Ti.out]at hit;obtain⟨b',o',c',rE,_,q0,q1⟩:=hit.2 i hlt;cases rE;rw[<-Nat.add_assoc]at q1;obtain⟨⟨a,b⟩,hab⟩:∃x,O.getD i (0,0)=x:=⟨_,rfl⟩;rw[hab]at q0 q1;simp only at q0 q1;have hmem:(a,b)∈O:=by rw[<-hab];simp[List.getD,hlt]
     have ok:=om.out _ hmem;have ha:a<=R.length:=ok.1;have hbl:b<=(aH R a).length:=ok.2;have K4:=HE.out.yS a ha;have hR:=HE.out.hR;have i2:(0:Int)<=(i:Int):=Int.natCast_nonneg _;have i3:(i:Int)<(O.length:Int):=by omega
     have jU:Hid (∀n,bN R st.lk k n (O.take (i+1)) (Z n,[],false)=if lN R st.lk k n (a,b) then jM R a (bN R st.lk k n (O.take i) (Z n,[],false)) else bN R st.lk k n (O.take i) (Z n,[],false)):=fun n=>abH hlt hab;have hM1:=hM.alloc (.cells #[.int .i64 a,.int .i64 b] 138);have pI:Hid (bT (wr.alloc (.cells #[.int .i64 a,.int .i64 b] 138)) d v wr.heap.size #[.int .i64 a,.int .i64 b] 138):=hM.box _ _;have pE:Hid (aj w0 (wr.alloc (.cells #[.int .i64 a,.int .i64 b] 138)) d v G ng st):=hM1;cases hnx:(aH R a)[b]? with
     |some s=>
      have nx:=Gn (hM1.auto HE.out) ha hnx;have hlt2:=(List.getElem?_eq_some_iff.1 hnx).1
      have dP:Hid (∀n,bN R st.lk k n (O.take (i+1)) (Z n,[],false)=bN R st.lk k n (O.take i) (Z n,[],false)):=fun n=>by
       rw[jU.out n,if_neg];unfold lN;simp only[Bool.and_eq_true,decide_eq_true_eq];omega
      clear hO hB hM hit hab hmem ok hM1 hnx;obtain⟨sb,sv⟩:=s;simp only at nx
      go_wp2_with
       (go_at_call 104;refine nx.mono ?_;rintro e w2 ⟨rfl,hB2⟩
        have HB2:Hid (Below wr.heap.size wr w2):=((Below.refl _ _).alloc (Nat.le_refl _) _).trans (hB2.mono (by simp))
        clear hB2)
      go_roundw
      case rel=>
       have hb:=HB2.out.alloc HB2.out.size (.cells #[.bool sb,.int .i64 sv] 116);refine⟨i+1,vr,by go_num,by omega,?_,HB.out.trans (hb.mono HB.out.size)⟩;rw[xI (f':=fun n=>bN R st.lk k n (O.take i) (Z n,[],false)) (fun n _=>dP.out n)];exact HO.out.below hb (Nat.le_refl _)
      case measure=>simp[intOf];omega
     |none=>
      have hbe:b=(aH R a).length:=by have:=List.getElem?_eq_none_iff.1 hnx;omega
      have nx:=Gp (a:=a) (b:=b) (hM1.auto HE.out) ha hbe;obtain⟨q,hq⟩:∃q,st.lk (k,(a,b))=q:=⟨_,rfl⟩;have DR:q<512:=by rw[<-hq];exact Kv.out _
      have HQ:Hid (st.lk (k,(a,b))=q):=hq
      have abO:Hid (∀n,bN R st.lk k n (O.take (i+1)) (Z n,[],false)=if q.testBit n then jM R a (bN R st.lk k n (O.take i) (Z n,[],false)) else bN R st.lk k n (O.take i) (Z n,[],false)):=fun n=>by
       rw[jU.out n];unfold lN;simp only;rw[hq,decide_eq_true hbe,Bool.true_and]
      clear hO hB hM hit hab hmem ok hM1 hnx hq hbe
      go_wp2_with
       (go_at_call 104;refine nx.mono ?_;rintro e w2 ⟨rfl,hB2⟩
        have iU:Hid (aj w0 w2 d v G ng st):=pE.out.below hB2;have jZ:Hid (bT w2 d v wr.heap.size #[.int .i64 a,.int .i64 b] 138):=pI.out.below hB2;have HB2:Hid (Below wr.heap.size wr w2):=((Below.refl _ _).alloc (Nat.le_refl _) _).trans (hB2.mono (by simp))
        clear hB2 nx)
      obtain⟨W3,hW3⟩:∃W3,w2.alloc (.cells #[.bool false,.int .i64 0] 116)=W3:=⟨_,rfl⟩;have l5:Hid (aj w0 W3 d v G ng st):=by show aj _ _ _ _ _ _ _;rw[<-hW3];exact iU.out.alloc _
      have mZ:Hid (bT W3 d v wr.heap.size #[.int .i64 a,.int .i64 b] 138):=by show bT _ _ _ _ _ _;rw[<-hW3];exact jZ.out.alloc _
      have HB3:Hid (Below wr.heap.size wr W3):=by show Below _ _ _;rw[<-hW3];exact HB2.out.alloc HB2.out.size _
      rw[hW3];clear hW3 pE pI iU jZ HB2;have l3:=l5.out.drew.Gl (s:=(k,(a,b))) (by have:=HK.out;simp only;omega) (by simp only;omega) (by simp only;omega) hc;unfold mX at l3;simp only[HQ.out]at l3;have c8:=(l5.out.cell (i:=8) rfl (by omega)).1;have x0:=mZ.out.cell (i:=0) rfl;have x1:=mZ.out.cell (i:=1) rfl
      go_cut [11] from 44 to 78 (fun s11 wx=>s11= .int .u32 q/\wx=W3.drew)
      case first=>
       go_region
       all_goals
        go_wp2_with fail
        go_meet
        case rel=>exact⟨rfl,rfl⟩
      case rest=>
       obtain⟨rfl,hwc⟩:=hcut;have xB:Hid (bT wc d v wr.heap.size #[.int .i64 a,.int .i64 b] 138):=by show bT _ _ _ _ _ _;rw[hwc];exact mZ.out.drew
       have AB:Hid (Below wr.heap.size wr wc):=by show Below _ _ _;rw[hwc];exact HB3.out.drew
       have Tj:Hid (ah wc w.heap.size (bE cg vr (fun n=>bN R st.lk k n (O.take i) (Z n,[],false)) M)):=by show ah _ _ _;exact HO.out.below AB.out (Nat.le_refl _)
       have jk:Hid (Below w.heap.size w wc):=HB.out.trans (AB.out.mono HB.out.size)
       have GX:Hid (wr.heap.size≠cg/\∀n,n<M->(vr n).ownBlock≠some wr.heap.size):=by
        have h1:=(HO.out.own .cl _ rfl).lt cg rfl;refine⟨fun e=>by omega,fun n hn e=> ?_⟩;have:=((GU HO.out hn).lt _ e).2;omega
       clear hwc l3 c8 x0 x1 l5 mZ HB3 HO HB AB;obtain⟨bx,hbx⟩:∃bx,wr.heap.size=bx:=⟨_,rfl⟩;rw[hbx]at xB GX⊢;clear hbx
       go_wp2_with fail
       have HOl:Hid (∀n,(bN R st.lk k n (O.take i) (Z n,[],false)).2.1.length<=1000):=fun n=>by
        have:=abJ (R:=R) (lk:=st.lk) (k:=k) (n:=n) (O.take i) (Z n,[],false);have h2:(O.take i).length<=369:=by rw[List.length_take];omega
        simp only[List.length_nil]at this;omega
       go_loopw [64] (fun s64 wq=> ∃(j:Nat) (kg:Nat->Value),s64= .int .i64 j/\j<=M/\ah wq w.heap.size (bE cg kg (fun n=>if n<j then bN R st.lk k n (O.take (i+1)) (Z n,[],false) else bN R st.lk k n (O.take i) (Z n,[],false)) M)/\Below w.heap.size w wq/\wq.heap[bx]?=some (.cells #[.int .i64 a,.int .i64 b] 138)/\bx≠cg/\∀n,n<M->(kg n).ownBlock≠some bx) (fun s _=>M-(intOf s).toNat)
       case atStart=>
        refine⟨0,vr,rfl,Nat.zero_le _,?_,jk.out,xB.out.here,GX.out.1,GX.out.2⟩;rw[xI (f':=fun n=>bN R st.lk k n (O.take i) (Z n,[],false)) (fun n _=>by simp)];exact Tj.out
       case round=>
        clear Tj jk xB GX;obtain⟨j,kg,abP,hj,hO,hB,hbx,hbc,hbv⟩:=hrel;subst abP;have HO:Hid (ah wr w.heap.size (bE cg kg (fun n=>if n<j then bN R st.lk k n (O.take (i+1)) (Z n,[],false) else bN R st.lk k n (O.take i) (Z n,[],false)) M)):=hO;have HB:Hid (Below w.heap.size w wr):=hB;have ko:Hid (wr.heap[bx]?=some (.cells #[.int .i64 a,.int .i64 b] 138)/\bx≠cg/\∀n,n<M->(kg n).ownBlock≠some bx):=⟨hbx,hbc,hbv⟩;by_cases hjl:j<M
        ·have hasc:=aaN (w:=wr) (m:=q) (n:=j) (by omega) (by omega)
         have b0:wr.cell? ⟨bx,0,none⟩=some (.int .i64 a):=by simp[World.cell?,hbx]
         have hsj:=abO.out j;have j0:(0:Int)<=(j:Int):=Int.natCast_nonneg _;have j1:(j:Int)<(M:Int):=by omega
         cases hbit:q.testBit j with
         |false=>
          rw[hbit]at hasc hsj;simp only[Bool.false_eq_true,if_false]at hsj;have LB:Hid (bN R st.lk k j (O.take (i+1)) (Z j,[],false)=bN R st.lk k j (O.take i) (Z j,[],false)):=hsj;clear hO hB hbx hbc hbv hsj hbit b0
          go_wp2_with (go_at_call 109;refine hasc.mono ?_;rintro e w5 ⟨rfl,rfl⟩)
          go_roundw
          case rel=>
           refine⟨j+1,kg,by go_num,by omega,?_,HB.out,ko.out.1,ko.out.2.1,ko.out.2.2⟩
           rw[xI (f':=fun n=>if n<j then bN R st.lk k n (O.take (i+1)) (Z n,[],false) else bN R st.lk k n (O.take i) (Z n,[],false)) (fun n _=>by
            by_cases e1:n<j
            ·rw[if_pos e1,if_pos (by omega)]
            ·by_cases e2:n=j
             ·subst e2;rw[if_pos (by omega),if_neg e1,LB.out]
             ·rw[if_neg (by omega),if_neg e1])]
           exact HO.out
          case measure=>simp[intOf];omega
         |true=>
          rw[hbit]at hasc hsj;simp only[if_true]at hsj;have LB:Hid (bN R st.lk k j (O.take (i+1)) (Z j,[],false)=jM R a (bN R st.lk k j (O.take i) (Z j,[],false))):=hsj;have put:=abG (r:=a) ((HM.out.below hB).drew.auto HE.out) hO.drew (show w.heap.size<=wr.drew.heap.size from hB.size) hjl (by simp only[Nat.lt_irrefl,if_false];exact HOl.out j);simp only[Nat.lt_irrefl,if_false]at put;clear hO hB hbx hbc hbv hsj hbit
          go_wp2_with (go_at_call 109;refine hasc.mono ?_;rintro e w5 ⟨rfl,rfl⟩)
          refine sM 6 (by kernel_rfl) (by kernel_rfl) ?_;simp only[List.take_succ_cons,List.take_zero,List.drop_succ_cons,List.drop_zero]
          repeat still_step
          refine wpStill_nil ?_
          go_wp2_with (go_at_call 110;refine put.mono ?_;rintro e w6 ⟨rfl,vr6,GY,hv6,fC⟩)
          go_roundw
          case rel=>
           have hcB:=(HO.out.own .cl _ rfl).lt cg rfl;have hkb:¬(bx=cg\/(kg j).ownBlock=some bx):=fun e=>e.elim ko.out.2.1 (ko.out.2.2 j hjl);have uZ:bx<w5.heap.size:=(Array.getElem?_eq_some_iff.1 ko.out.1).1;refine⟨j+1,vr6,by go_num,by omega,?_,?_,(fC.block bx uZ hkb).trans ko.out.1,ko.out.2.1,fun n hn e=> ?_⟩
           ·rw[xI (f':=dG (fun n=>if n<j then bN R st.lk k n (O.take (i+1)) (Z n,[],false) else bN R st.lk k n (O.take i) (Z n,[],false)) j (jM R a (bN R st.lk k j (O.take i) (Z j,[],false)))) (fun n _=>by
             unfold dG;by_cases e2:n=j
             ·subst e2;rw[if_pos (by omega),if_pos rfl,LB.out]
             ·rw[if_neg e2]
              simp only;by_cases e1:n<j
              ·rw[if_pos e1,if_pos (by omega)]
              ·rw[if_neg e1,if_neg (by omega)])]
            exact GY
           ·have hbel:Below w.heap.size w5.drew w6:=fC.below (fun b hb=>by
             rcases hb with rfl|hb
             ·exact hcB.1
             ·exact((GU HO.out hjl).lt b hb).1) HB.out.size
            exact HB.out.trans ((Below.refl _ _).drew.trans hbel)
           ·rcases hv6 n bx e with h1|h1
            ·exact ko.out.2.2 n hn h1
            ·have:w5.drew.heap.size=w5.heap.size:=rfl
             omega
          case measure=>simp[intOf];omega
        ·obtain rfl:M=j:=by omega
         have abQ:Hid (ah wr w.heap.size (bE cg kg (fun n=>bN R st.lk k n (O.take (i+1)) (Z n,[],false)) M)):=by
          show ah _ _ _;rw[xI (f':=fun n=>if n<M then bN R st.lk k n (O.take (i+1)) (Z n,[],false) else bN R st.lk k n (O.take i) (Z n,[],false)) (fun n hn=>by rw[if_pos hn])];exact hO
         clear hO hB hbx hbc hbv
         go_wp2_with fail
         go_roundw
         case rel=>
          exact⟨i+1,kg,by go_num,by omega,abQ.out,HB.out⟩
         case measure=>simp[intOf];omega
    ·obtain rfl:i=O.length:=by omega
     rw[List.take_length]at hO;have HOf:Hid (ah wr w.heap.size (bE cg vr (fun n=>bN R st.lk k n O (Z n,[],false)) M)):=hO;clear hO hB
     go_wp2_with fail
     go_ret;exact⟨cg,vr,rfl,by rw[Ti.out];exact HOf.out,HB.out⟩
end Go.Proofs.YtblkkhfdeaaidaaGreatDoor
