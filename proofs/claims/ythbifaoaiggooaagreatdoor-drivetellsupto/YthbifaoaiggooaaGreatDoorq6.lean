import Derived.Test.YthbifaoaiggooaaGreatDoorq5
import Derived.RegionTactic
set_option maxHeartbeats 6400000
set_option maxRecDepth 100000
namespace Go.Proofs.YthbifaoaiggooaaGreatDoor
open Go.RowKit
structure Small(it:aX):Prop where
 a:it.rule<=1000
 b:it.read<=1000
 c:it.fr<=1000
 e:it.upto<=1000
theorem Ku{w:World}{B nm:Nat}{d:Ad}{v:CM}{st:bq}(h:aN w B d v st nm){it:aX}(hs:Small it)(hI:st.I.length<=1000000):
 (Instr.lookup 172 (.map (some d.mi)) (sV it) true).run Tryz.prog w= .ok (.tuple #[.agg #[],.bool (decide (it∈st.I))]) w:=by
 obtain⟨l,hl⟩:=UJ hs.a hs.b hs.c hs.e;have:=Gw h.pX true (by unfold maxLen;omega) UF Tryz.underlying172 (acv w) UD hl;rw[this];by_cases hi:it∈st.I<;>simp[yY,hi]
theorem acD{w:World}{B nm:Nat}{d:Ad}{v:CM}{st:bq}(h:aN w B d v st nm){it:aX}(hs:Small it):
 ∃w',(Instr.mapUpdate 172 (.map (some d.mi)) (sV it) (.agg #[])).run Tryz.prog w= .ok () w'/\aN w' B d v { st with I:=st.I++[it] } nm/\Goes d v v w w':=by
 obtain⟨l,hl⟩:=UJ hs.a hs.b hs.c hs.e;obtain⟨w',h1,h2,h3,_⟩:=Om h.pX UF Tryz.underlying172 UD hl (.agg #[]);obtain⟨h4,h5⟩:=h.acz h3 h2;exact⟨w',h1,h4,h5⟩
theorem acE{w:World}{B nm:Nat}{d:Ad}{v:CM}{st:bq}(h:aN w B d v st nm){a b c e:Nat}(hs:Small ⟨a,b,c,e⟩)(hI:st.I.length<=1000000)(hin:(⟨a,b,c,e⟩:aX)∈st.I):
 Calls Tryz.prog 129 #[.pointer (some ⟨d.ca,0,none⟩),.agg #[.int .i64 a,.int .i64 b,.int .i64 c,.int .i64 e]] w λe w'=>e= .returned (.tuple #[])/\aN w' B d v st nm/\Goes d v v w w':=by
 have h1:=h.alloc (.cells #[.int .i64 a,.int .i64 b,.int .i64 c,.int .i64 e] 182);have h2:=h1.alloc (.cells #[] 239);have l1:=Ku h1.drew hs hI;have l2:=Ku h2.drew hs hI;have c4:=(h1.cell (i:=4) rfl (by omega)).1;have d4:=(h2.cell (i:=4) rfl (by omega)).1;rw[aT hin]at l1 l2;unfold sV at l1 l2;simp only at l1 l2;have HH:Hid (aN w B d v st nm):=h;clear h h1 h2 hin
 go_enter Tryz.func129,Tryz.ntmps129
 go_wp2_with fail
 go_region
 all_goals
  go_wp2_with fail
  refine aH (v:= .tuple #[]) (Af Tryz.results129 _ _ _) rfl ?_;have hb:Below w.heap.size w ((w.alloc (.cells #[.int .i64 a,.int .i64 b,.int .i64 c,.int .i64 e] 182)).alloc (.cells #[] 239)).drew:=(((ai _ _).alloc (ah _) _).alloc (by simp) _).drew;exact⟨rfl,HH.out.below hb,Goes.dI hb⟩
theorem acF{w:World}{B nm:Nat}{d:Ad}{v:CM}{st:bq}(h:aN w B d v st nm){a b c e:Nat}(hs:Small ⟨a,b,c,e⟩)(hI:st.I.length<=1000000)(hO:st.O.length<=1000000)(hin:(⟨a,b,c,e⟩:aX)∉st.I):
 Calls Tryz.prog 129 #[.pointer (some ⟨d.ca,0,none⟩),.agg #[.int .i64 a,.int .i64 b,.int .i64 c,.int .i64 e]] w λr w'=>r= .returned (.tuple #[])/\∃aL,aN w' B d { v with ov:=aL } { st with I:=st.I++[⟨a,b,c,e⟩],O:=st.O++[⟨a,b,c,e⟩] } nm/\Goes d v { v with ov:=aL } w w':=by
 have h1:=h.alloc (.cells #[.int .i64 a,.int .i64 b,.int .i64 c,.int .i64 e] 182);have h2:=h1.alloc (.cells #[] 239);have l1:=Ku h1.drew hs hI;have l2:=Ku h2.drew hs hI;have c4:=(h1.cell (i:=4) rfl (by omega)).1;have d4:=(h2.cell (i:=4) rfl (by omega)).1;rw[aU hin]at l1 l2;unfold sV at l1 l2;simp only at l1 l2;have hb:Below w.heap.size w ((w.alloc (.cells #[.int .i64 a,.int .i64 b,.int .i64 c,.int .i64 e] 182)).alloc (.cells #[] 239)).drew:=(((ai _ _).alloc (ah _) _).alloc (by simp) _).drew;obtain⟨w3,u3,h3,g3⟩:=acD h2.drew.drew hs;unfold sV at u3;simp only at u3;have lb:¬Kc d v w.heap.size:=λhk=>by have:=(h.kc hk).2;omega
 have rD:w3.heap[w.heap.size]?=some (.cells #[.int .i64 a,.int .i64 b,.int .i64 c,.int .i64 e] 182):=by
  rw[(g3.far (b:=w.heap.size) (by simp;omega) lb).1];show ((w.alloc _).alloc _).heap[w.heap.size]?=_;rw[(World.grownBy_alloc _ _ none).block _ (by simp) (by simp)];exact heap_alloc_new _ _
 have NA:w.heap.size+2<=w3.heap.size:=by have:=g3.kept.size;simpa using this
 have HG:Hid (Goes d v v w w3):=(Goes.dI hb.drew).trans g3;have H3:Hid (aN w3 B d v { st with I:=st.I++[⟨a,b,c,e⟩] } nm):=h3;have b0:w3.cell? ⟨w.heap.size,0,none⟩=some (.int .i64 a):=by simp[World.cell?,rD]
 have b1:w3.cell? ⟨w.heap.size,1,none⟩=some (.int .i64 b):=by simp[World.cell?,rD]
 have b2:w3.cell? ⟨w.heap.size,2,none⟩=some (.int .i64 c):=by simp[World.cell?,rD]
 have b3:w3.cell? ⟨w.heap.size,3,none⟩=some (.int .i64 e):=by simp[World.cell?,rD]
 clear h h1 h2 hin h3 g3 hb rD
 go_enter Tryz.func129,Tryz.ntmps129
 go_wp2_with fail
 go_region
 all_goals
  go_wp2_with fail
  clear l1 l2 c4
  go_region
  go_wp2_with fail
  clear u3 d4;have h4:=H3.out.alloc (.cells #[.int .i64 a,.int .i64 b,.int .i64 c,.int .i64 e] 182);obtain⟨oa,oc,hov⟩:=h4.own.slice (i:= .op) rfl;have oJ:v.ov= .slice oa st.O.length oc:=hov;have e5:=(H3.out.cell (i:=5) rfl (by omega)).1;have f5:=(h4.cell (i:=5) rfl (by omega)).1;rw[oJ]at e5 f5
  have eU:((w3.alloc (.cells #[.int .i64 a,.int .i64 b,.int .i64 c,.int .i64 e] 182)).drew).ownsRow B 182 4 (.slice oa st.O.length oc) st.O.length (st.O.flatMap jJ):=by
   have:=h4.own.own .op _ rfl;simp only[oJ]at this;exact this
  have hca:d.ca<w3.heap.size:=(H3.out.kc (.inr (.inr (.inr (.inl rfl))))).2;have hne:some d.ca≠(Value.slice oa st.O.length oc).ownBlock:=λe1=>h4.own.apart .ch .op _ _ (by simp) rfl rfl d.ca rfl (by show v.ov.ownBlock=_;rw[oJ];exact e1.symm);have f5f:=(h4.cell (i:=5) rfl (by omega)).2;have hn1:st.O.length+1<=maxLen:=by unfold maxLen;omega
  have hn2:(st.O.length+1)*32<=140737488355328:=by omega
  have hB3:B<=w3.heap.size:=by have:=H3.out.ge.1;have:=H3.out.pX.lt;omega
  have H4:Hid (aN (w3.alloc (.cells #[.int .i64 a,.int .i64 b,.int .i64 c,.int .i64 e] 182)).drew B d v { st with I:=st.I++[⟨a,b,c,e⟩] } nm):=h4.drew;have HV:Hid (v.ov= .slice oa st.O.length oc):=oJ;obtain⟨i0,hi0,hz0,hz1,hz2⟩:=fK Tryz.infoItm;clear h4 hov oJ H3
  go_region_law
   ((refine wZ _ (by rfl) _ _ _ (by rfl) B 182 i0 _ 4 32 Tryz.underlying175 hi0 hz0 hz1 hz2 rfl (by omega) (.slice oa st.O.length oc) st.O.length (st.O.flatMap jJ) (by rfl) eU
      ⟨w3.heap.size,0,none⟩ 1 1 [.int .i64 a,.int .i64 b,.int .i64 c,.int .i64 e] (by rfl) (by rfl) (jh (cs:= #[.int .i64 a,.int .i64 b,.int .i64 c,.int .i64 e]) (t:=182) (fr:=(0,0)) (heap_alloc_new w3 _)) (by simp[Value.oneCell'])
      (by omega) hn1 hn2 (by simp;omega) (w3.heap.size+1) (by simp) ?_;intro g cap w5 hown5 hgrow hat hlt;have c5':=(hgrow.cell_far ⟨d.ca,5,none⟩ (by simp;omega) hne).trans f5;have f5':=(hgrow.frozen_far ⟨d.ca,5,none⟩ (by simp;omega) hne).trans f5f))
  all_goals
   go_wp2_with fail
   go_end0
   have hat':∀g',(Value.slice (some ⟨g,0,none⟩) (st.O.length+1) cap).ownBlock=some g'->v.ov.ownBlock=some g'\/g'=((w3.alloc (.cells #[.int .i64 a,.int .i64 b,.int .i64 c,.int .i64 e] 182)).drew).heap.size:=λg' hg'=>by
    obtain rfl:g=g':=by simpa [Value.ownBlock] using hg'
    rw[HV.out];rcases hat with h5|h5
    ·exact .inl h5
    ·exact .inr (by simpa using h5)
   have r:=H4.out.D8 (O':=st.O++[⟨a,b,c,e⟩]) (aL:= .slice (some ⟨g,0,none⟩) (st.O.length+1) cap) (by rw[HV.out];exact hgrow) (by simpa [List.flatMap_append,jJ] using hown5) hat';exact⟨rfl,_,r.1,(HG.out.trans (Goes.dI (((ai _ _).alloc (ah _) _).drew))).trans r.2⟩
theorem UQ{w:World}{B nm:Nat}{d:Ad}{v:CM}{st:bq}(h:aN w B d v st nm){a b c e:Nat}(hs:Small ⟨a,b,c,e⟩)(hI:st.I.length<=1000000)(hO:st.O.length<=1000000):
 Calls Tryz.prog 129 #[.pointer (some ⟨d.ca,0,none⟩),.agg #[.int .i64 a,.int .i64 b,.int .i64 c,.int .i64 e]] w λr w'=>r= .returned (.tuple #[])/\∃aL,aN w' B d { v with ov:=aL } (gq st ⟨a,b,c,e⟩) nm/\Goes d v { v with ov:=aL } w w':=by
 unfold gq;split
 ·rename_i hin
  exact(acE h hs hI hin).mono λr w' ⟨h1,h2,h3⟩=>⟨h1,v.ov,h2,h3⟩
 ·rename_i hin
  exact acF h hs hI hO hin
theorem Ot{w:World}{B nm:Nat}{d:Ad}{v:CM}{st:bq}(h:aN w B d v st nm){a b c e j:Nat}(hs:Small (bS ⟨a,b,c,e⟩ j))(hI:st.I.length<=1000000)(hO:st.O.length<=1000000):
 Calls Tryz.prog 132 #[.pointer (some ⟨d.ca,0,none⟩),.agg #[.int .i64 a,.int .i64 b,.int .i64 c,.int .i64 e],.int .i64 j] w λr w'=>r= .returned (.tuple #[])/\∃aL,aN w' B d { v with ov:=aL } (gq st (bS ⟨a,b,c,e⟩ j)) nm/\Goes d v { v with ov:=aL } w w':=by
 have hb1:=hs.b;have hb2:b+1<=1000:=hb1;have h1:=h.alloc (.cells #[.int .i64 a,.int .i64 ((b:Int)+1),.int .i64 c,.int .i64 j] 182);have put:=UQ h1 (a:=a) (b:=b+1) (c:=c) (e:=j) hs hI hO;rw[show ((b+1:Nat):Int)=(b:Int)+1 from rfl]at put;clear h h1
 go_enter Tryz.func132,Tryz.ntmps132
 go_wp2_with (go_at_call 129;refine put.mono ?_;rintro r w1 ⟨rfl,v',h2,h3⟩)
 go_end0
 exact⟨rfl,v',h2,(Goes.dI ((ai _ _).alloc (ah _) _)).trans h3⟩
theorem Ou(st:bq)(it:aX):(gq st it).I.length<=st.I.length+1/\(gq st it).O.length<=st.O.length+1:=by
 unfold gq;split<;>simp
theorem UR(R:List Ru)(s:dU)(st:bq):∀k,(gN R s k st).I.length<=st.I.length+k/\(gN R s k st).O.length<=st.O.length+k:=by
 intro k
 induction k with
 |zero=>exact⟨ah _,ah _⟩
 |succ k ih=>
  unfold gN;split
  ·have:=Ou (gN R s k st) ⟨k,0,s.2,s.2⟩;omega
  ·omega
def oK(w:World)(d:Ad)(v:CM)(b:Nat)(x y:Int)(t:TypeId):Prop:=w.heap[b]?=some (.cells #[.int .i64 x,.int .i64 y] t)/\¬Kc d v b/\b<w.heap.size
theorem oK.goes{w w':World}{d:Ad}{v v':CM}{b:Nat}{x y:Int}{t:TypeId}(h:oK w d v b x y t)(g:Goes d v v' w w'):oK w' d v' b x y t:=by
 obtain⟨h1,h2,h3⟩:=g.far h.2.2 h.2.1;exact⟨h1.trans h.1,h2,h3⟩
theorem oK.cells{w:World}{d:Ad}{v:CM}{b:Nat}{x y:Int}{t:TypeId}(h:oK w d v b x y t):w.cell? ⟨b,0,none⟩=some (.int .i64 x)/\w.cell? ⟨b,1,none⟩=some (.int .i64 y):=by
 constructor<;>simp[World.cell?,h.1]
theorem oK.mk{w:World}{B nm:Nat}{d:Ad}{v:CM}{st:bq}(h:aN w B d v st nm)(x y:Int)(t:TypeId):oK (w.alloc (.cells #[.int .i64 x,.int .i64 y] t)) d v w.heap.size x y t:=
 ⟨heap_alloc_new _ _,λhk=>by have:=(h.kc hk).2;omega,by simp⟩
theorem UU{w:World}{B nm:Nat}{d:Ad}{v:CM}{st:bq}{R:List Ru}(h:aN w B d v st nm)(hr:aG w B d.rv R){n:Int}{p:Nat}(hR:R.length<=40)(hp:p<=1000)(hI:st.I.length+40<=1000000)(hO:st.O.length+40<=1000000):
 Calls Tryz.prog 95 #[.pointer (some ⟨d.ca,0,none⟩),.agg #[.int .i64 n,.int .i64 p]] w λr w'=>r= .returned (.tuple #[])/\∃aL,aN w' B d { v with ov:=aL } (gN R (n,p) R.length st) nm/\Goes d v { v with ov:=aL } w w':=by
 obtain⟨ra,rc,aI⟩:=hr.1;have h1:=h.alloc (.cells #[.int .i64 n,.int .i64 p] 180);have c2:=(h1.cell (i:=2) rfl (by omega)).1;rw[aI]at c2
 have HR:Hid (∀wr v',Goes d v v' (w.alloc (.cells #[.int .i64 n,.int .i64 p] 180)) wr->aG wr B (.slice ra R.length rc) R/\oK wr d v' w.heap.size n p 180):=λwr v' g=>by
  refine⟨?_,(oK.mk h n p 180).goes g⟩;rw[<-aI];have hB:=h1.rC g;exact hr.below ((h.rC (Goes.dI ((ai _ _).alloc (ah _) _))).trans hB)
 have H1:Hid (aN (w.alloc (.cells #[.int .i64 n,.int .i64 p] 180)) B d v st nm):=h1;clear h h1 hr
 go_enter Tryz.func95,Tryz.ntmps95
 go_wp2_with fail
 clear c2
 go_loopw [12] (λs wr=> ∃(k:Nat) (aL:Value),s= .int .i64 k/\k<=R.length/\aN wr B d { v with ov:=aL } (gN R (n,p) k st) nm/\Goes d v { v with ov:=aL } (w.alloc (.cells #[.int .i64 n,.int .i64 p] 180)) wr) (λs _=>R.length-(intOf s).toNat)
 case atStart=>exact⟨0,v.ov,rfl,aP _,H1.out,Goes.refl _ _ _⟩
 case round=>
  obtain⟨k,jS,rfl,hk,hC,hG⟩:=hrel;obtain⟨v1,hv1⟩:∃v1,({ v with ov:=jS }:CM)=v1:=⟨_,rfl⟩;rw[hv1]at hC hG;have ze:Hid (({ v with ov:=jS }:CM)=v1):=hv1;clear hv1;have HG:Hid (Goes d v v1 (w.alloc (.cells #[.int .i64 n,.int .i64 p] 180)) wr):=hG;by_cases hlt:k<R.length
  ·obtain⟨Ov,hL⟩:=HR.out wr v1 hG
   obtain⟨rb,ro,rc',qa,qc,hv,hb,k1,k2,_,_⟩:=Ov.2 k hlt;injection hv with hva _ hvc;subst hva;subst hvc;obtain⟨⟨L,Rt⟩,hre⟩:=af (R.getD k (0,[]));rw[hre]at k1 k2;simp only at k1 k2;obtain⟨rl,hrl⟩:=af Rt.length;rw[hrl]at k2;have k2':wr.cell? ⟨rb,ro+k*2+1,none⟩=some (.slice qa rl qc):=by rw[kF];exact k2
   obtain⟨l0,l1⟩:=hL.cells;have m0:(wr.alloc (.cells #[.int .i64 L,.slice qa rl qc] 96)).cell? ⟨w.heap.size,0,none⟩=some (.int .i64 n):=(dB _ _ _ hL.2.2).trans l0;have m1:(wr.alloc (.cells #[.int .i64 L,.slice qa rl qc] 96)).cell? ⟨w.heap.size,1,none⟩=some (.int .i64 p):=(dB _ _ _ hL.2.2).trans l1;have i0:(0:Int)<=(k:Int):=aF _;have i1:(k:Int)<(R.length:Int):=by omega
   have hlen:=UR R (n,p) st k;by_cases hLn:L=n
   ·have put:=UQ (hC.alloc (.cells #[.int .i64 L,.slice qa rl qc] 96)) (a:=k) (b:=0) (c:=p) (e:=p) ⟨by simp;omega,by simp,by simpa using hp,by simpa using hp⟩ (by omega) (by omega)
    have HE:Hid (gN R (n,p) (k+1) st=gq (gN R (n,p) k st) ⟨k,0,p,p⟩):=by
     show gN R (n,p) (k+1) st=_;rw[gN,hre];simp only[hLn,bQ]
    subst hLn;rw[show ((0:Nat):Int)=0 from rfl]at put;have HC:Hid (Goes d v1 v1 wr (wr.alloc (.cells #[.int .i64 L,.slice qa rl qc] 96))):=(Goes.refl _ _ _).alloc _;clear hC hG Ov hL k2 hre hrl hlen
    go_wp2_with (go_at_call 129;refine put.mono ?_;rintro r w1 ⟨rfl,v2,h2,h3⟩)
    go_roundw
    case rel=>exact⟨k+1,v2,by go_num,by omega,by rw[HE.out];rw[<-ze.out]at h2;exact h2,by rw[<-ze.out]at h3 HG HC;exact(HG.out.trans HC.out).trans h3⟩
    case measure=>simp[intOf];omega
   ·have HE:Hid (gN R (n,p) (k+1) st=gN R (n,p) k st):=by
     show gN R (n,p) (k+1) st=_;rw[gN,hre];simp only[hLn,bN]
    have HC:Hid (aN wr B d v1 (gN R (n,p) k st) nm):=hC;have aja:(L==n)=false:=by simpa using hLn
    clear hC hG Ov hL k2 hre hrl hlen
    go_wp2_with fail
    go_roundw
    case rel=>exact⟨k+1,jS,by go_num,by omega,by rw[HE.out,ze.out];exact HC.out.alloc _,by rw[ze.out];exact HG.out.alloc _⟩
    case measure=>simp[intOf];omega
  ·obtain rfl:k=R.length:=by omega
   have HC:Hid (aN wr B d v1 (gN R (n,p) R.length st) nm):=hC;clear hC hG
   go_wp2_with fail
   go_end0
   rw[<-ze.out]at HC HG;exact⟨rfl,jS,HC.out,(Goes.dI ((ai _ _).alloc (ah _) _)).trans HG.out⟩
theorem acG{w:World}{lim:Nat}{sv:Value}{L:List Int}(h:aY w lim sv L)(hl:L.length<=1000000)(x:Int):
 Calls Tryz.prog 133 #[sv,.int .i64 x] w λe w'=>(∃r:Int,e= .returned (.int .i64 r)/\(0<=r↔x∈L))/\w'=w:=by
 obtain⟨sa,sc,hsv⟩:=h.1;subst hsv;have HL:Hid (aY w lim (.slice sa L.length sc) L):=h;clear h
 go_enter Tryz.func133,Tryz.ntmps133
 go_wp2_with fail
 go_loop [8] (λs=> ∃k:Nat,s= .int .i64 k/\k<=L.length/\x∉L.take k) (λs=>L.length-(intOf s).toNat)
 case atStart=>exact⟨0,rfl,aP _,by simp⟩
 case round=>
  obtain⟨k,rfl,hk,hn⟩:=hrel;by_cases hlt:k<L.length
  ·obtain⟨b,o,sc',he,_,c1⟩:=HL.out.2 k hlt
   injection he with ha _ hc;subst ha;subst hc;obtain⟨y,hy⟩:=af (L.getD k 0);rw[hy]at c1;have hyk:L[k]=y:=by rw[<-hy];simp[List.getD,hlt]
   have HT:Hid (L.take (k+1)=L.take k++[y]):=by show L.take (k+1)=_;rw[fT hlt,hyk]
   have HM:Hid (y∈L):=by show y∈L;rw[<-hyk];exact jO hlt
   have HN:Hid (x∉L.take k):=hn;have i0:(0:Int)<=(k:Int):=aF _;have i1:(k:Int)<(L.length:Int):=by omega
   clear hn hy hyk;by_cases hxy:x=y
   ·subst hxy
    go_wp2_with fail
    go_ret;exact⟨⟨k,rfl,λ_=>HM.out,λ_=>i0⟩,rfl⟩
   ·have hb:(x==y)=false:=by simpa using hxy
    go_wp2_with fail
    go_round
    case rel=>exact⟨k+1,by go_num,by omega,by rw[HT.out];simp only[iV,gG,not_or];exact⟨HN.out,hxy⟩⟩
    case measure=>simp[intOf];omega
  ·have HN:Hid (x∉L):=by
    show x∉L;rw[pG (by omega)]at hn;exact hn
   clear hn
   go_wp2_with fail
   go_ret;exact⟨⟨-1,rfl,λh=>by omega,λh=>absurd h HN.out⟩,rfl⟩
theorem Ow{w:World}{lim:Nat}{sv:Value}{L:List Int}(h:aY w lim sv L)(hl:L.length<=1000000)(x:Int):
 Calls Tryz.prog 97 #[sv,.int .i64 x] w λe w'=>e= .returned (.bool (decide (x∈L)))/\w'=w:=by
 have ix:=acG h hl x;clear h;by_cases hx:x∈L
 ·rw[aT hx]
  go_enter Tryz.func97,Tryz.ntmps97
  go_wp2_with (go_at_call 133;refine ix.mono ?_;rintro e w1 ⟨⟨r,rfl,hr⟩,rfl⟩;have h0:0<=r:=hr.2 hx;clear hr)
  go_ret;exact⟨rfl,rfl⟩
 ·rw[aU hx]
  go_enter Tryz.func97,Tryz.ntmps97
  go_wp2_with (go_at_call 133;refine ix.mono ?_;rintro e w1 ⟨⟨r,rfl,hr⟩,rfl⟩;have h0:decide (0<=r)=false:=aU (λh=>hx (hr.1 h));clear hr)
  go_ret;exact⟨rfl,rfl⟩
section
variable{w:World}{B nm:Nat}{d:Ad}{v:CM}{st:bq}
theorem aN.mono{UW:Nat}(h:aN w B d v st nm)(hn:nm<=UW):aN w B d v st UW:=
 ⟨h.own,h.pX,h.pY.mono hn,h.p8.mono hn,h.yZ,h.y8,h.ne1,h.y9,h.za,h.ge⟩
theorem Kv(h:aN w B d v st nm){s:dU}(h0:0<=s.1)(h1:s.1<=1000)(h2:s.2<=1000)(hn:nm<=1000000):(Instr.lookup 174 (.map (some d.me)) (jl s) false).run Tryz.prog w= .ok (v.VE s) w:=by
 obtain⟨l,hl⟩:=Kt h0 h1 h2;have:=Gw h.p8 false (by unfold maxLen;omega) Kr Tryz.underlying174 (UL w) Kq hl;rw[this];by_cases hi:(st.E s).length=0
 ·simp[jK,hi,h.y8 s hi]
 ·simp[jK,hi]
theorem UX(h:aN w B d v st nm){s:dU}(h0:0<=s.1)(h1:s.1<=1000)(h2:s.2<=1000)(hn:nm<=1000000):(Instr.lookup 173 (.map (some d.mw)) (jl s) false).run Tryz.prog w= .ok (v.VW s) w:=by
 obtain⟨l,hl⟩:=Kt h0 h1 h2;have:=Gw h.pY false (by unfold maxLen;omega) Kr Tryz.underlying173 (UK w) Kq hl;rw[this];by_cases hi:(st.W s).length=0
 ·simp[jK,hi,h.yZ s hi]
 ·simp[jK,hi]
theorem acH(h:aN w B d v st nm)(s:dU):(jK st.E v.VE s).getD (.slice none 0 0)=v.VE s:=by
 by_cases hi:(st.E s).length=0
 ·simp[jK,hi,h.y8 s hi]
 ·simp[jK,hi]
theorem acI(h:aN w B d v st nm)(s:dU):(jK st.W v.VW s).getD (.slice none 0 0)=v.VW s:=by
 by_cases hi:(st.W s).length=0
 ·simp[jK,hi,h.yZ s hi]
 ·simp[jK,hi]
theorem acJ(h:aN w B d v st nm){s:dU}(h0:0<=s.1)(h1:s.1<=1000)(h2:s.2<=1000)(hn:nm<=1000000):
 ∃(z:Nat) (w1:World),(Instr.mapEntry 174 (.map (some d.me)) (jl s)).run Tryz.prog w= .ok (.tuple #[v.VE s,.int .i64 z]) w1/\w.grownBy w1 (some d.me)/\w1.heap.size=w.heap.size/\
  ∀(w2:World) (val:Value),w2.heap[d.me]?=w1.heap[d.me]?->∃w3,(Instr.entryStore 174 (.map (some d.me)) (.int .i64 z) val).run Tryz.prog w2= .ok () w3/\MapAt Tryz.prog 180 jl w3 d.me (nm+1) (gX (jK st.E v.VE) s val)/\w2.grownBy w3 (some d.me)/\w3.heap.size=w2.heap.size:=by
 obtain⟨l,hl⟩:=Kt h0 h1 h2;obtain⟨z,w1,e1,e2,e3,e4⟩:=UB h.p8 (by unfold maxLen;omega) Kr Tryz.underlying174 UL Kq hl;rw[acH h]at e1;exact⟨z,w1,e1,e2,e3,e4⟩
theorem acK(h:aN w B d v st nm){s:dU}(h0:0<=s.1)(h1:s.1<=1000)(h2:s.2<=1000)(hn:nm<=1000000):
 ∃(z:Nat) (w1:World),(Instr.mapEntry 173 (.map (some d.mw)) (jl s)).run Tryz.prog w= .ok (.tuple #[v.VW s,.int .i64 z]) w1/\w.grownBy w1 (some d.mw)/\w1.heap.size=w.heap.size/\
  ∀(w2:World) (val:Value),w2.heap[d.mw]?=w1.heap[d.mw]?->∃w3,(Instr.entryStore 173 (.map (some d.mw)) (.int .i64 z) val).run Tryz.prog w2= .ok () w3/\MapAt Tryz.prog 180 jl w3 d.mw (nm+1) (gX (jK st.W v.VW) s val)/\w2.grownBy w3 (some d.mw)/\w3.heap.size=w2.heap.size:=by
 obtain⟨l,hl⟩:=Kt h0 h1 h2;obtain⟨z,w1,e1,e2,e3,e4⟩:=UB h.pY (by unfold maxLen;omega) Kr Tryz.underlying173 UK Kq hl;rw[acI h]at e1;exact⟨z,w1,e1,e2,e3,e4⟩
theorem Ox(h:aN w B d v st nm)(s:dU):aY w w.heap.size (v.VE s) ((st.E s).map λj:Nat=>(j:Int)):=by
 have ho:=h.own.own (.en s) _ rfl;simp only at ho;obtain⟨a,c,hv⟩:=cO ho;refine⟨⟨a,c,by simpa using hv⟩,λp hp=> ?_⟩;have hp':p<(st.E s).length:=by simpa using hp
 obtain⟨g,cap,hg,_,hlt⟩:=ho.form (by omega);refine⟨g,0,cap,by simpa using hg,hlt,?_⟩;rw[eO];have:=UN ho hg hp' rfl;rw[this];simp[List.getD,hp']
end
theorem acL{w:World}{B nm:Nat}{d:Ad}{v:CM}{st:bq}(h:aN w B d v st nm){n:Int}{p j:Nat}(h0:0<=n)(h1:n<=1000)(h2:p<=1000)(hn:nm<=1000000)(hE:(st.E (n,p)).length<=1000000)(hin:j∈st.E (n,p)):
 Calls Tryz.prog 130 #[.pointer (some ⟨d.ca,0,none⟩),.agg #[.int .i64 n,.int .i64 p],.int .i64 j] w λr w'=>r= .returned (.tuple #[])/\aN w' B d v st nm/\Goes d v v w w':=by
 have k1:=h.alloc (.cells #[.int .i64 n,.int .i64 p] 180);have c7:=(k1.cell (i:=7) rfl (by omega)).1;have l1:=Kv k1.drew (s:=(n,p)) h0 h1 h2 hn;unfold jl at l1;simp only at l1;have ct:=Ow (Ox k1.drew (n,p)) (by simpa using hE) j;rw[aT (jP.2 ⟨j,hin,rfl⟩)]at ct;obtain⟨ev,hev⟩:=af (v.VE (n,p));rw[hev]at l1 ct;have HH:Hid (aN w B d v st nm):=h;clear h k1 hin hev
 go_enter Tryz.func130,Tryz.ntmps130
 go_wp2_with fail
 refine xq 7 (by kernel_rfl) (by kernel_rfl) ?_;simp only[List.take_succ_cons,List.take_zero,qP,om]
 repeat still_step
 refine xg ?_
 go_wp2_with (go_at_call 97;refine ct.mono ?_;rintro r w1 ⟨rfl,rfl⟩)
 refine aH (v:= .tuple #[]) (Af Tryz.results130 _ _ _) rfl ?_;have hb:Below w.heap.size w ((w.alloc (.cells #[.int .i64 n,.int .i64 p] 180)).drew):=((ai _ _).alloc (ah _) _).drew;exact⟨rfl,HH.out.below hb,Goes.dI hb⟩
theorem acM{j:Nat}{L:List aX}{st:bq}{k:Nat}{it:aX}(hk:k<L.length)(hit:L.getD k ⟨0,0,0,0⟩=it):kI j (L.take (k+1)) st=gq (kI j (L.take k) st) (bS it j):=by
 have:L[k]=it:=by rw[<-hit];simp[List.getD,hk]
 unfold kI;rw[fT hk,FK,this];rfl
theorem acN{it:aX}{L:List Nat}{st:bq}{k:Nat}{j:Nat}(hk:k<L.length)(hj:L.getD k 0=j):onE it (L.take (k+1)) st=gq (onE it (L.take k) st) (bS it j):=by
 have:L[k]=j:=by rw[<-hj];simp[List.getD,hk]
 unfold onE;rw[fT hk,FK,this];rfl
theorem acO(j:Nat):∀(L:List aX) (st:bq),(kI j L st).I.length<=st.I.length+L.length/\(kI j L st).O.length<=st.O.length+L.length:=by
 intro L
 induction L with
 |nil=>intro st;exact⟨ah _,ah _⟩
 |cons it L ih=>
  intro st;have h1:=ih (gq st (bS it j));have h2:=Ou st (bS it j);show (kI j L (gq st (bS it j))).I.length<=_/\(kI j L (gq st (bS it j))).O.length<=_;simp only[List.length_cons];omega
theorem acP(it:aX):∀(L:List Nat) (st:bq),(onE it L st).I.length<=st.I.length+L.length/\(onE it L st).O.length<=st.O.length+L.length:=by
 intro L
 induction L with
 |nil=>intro st;exact⟨ah _,ah _⟩
 |cons j L ih=>
  intro st;have h1:=ih (gq st (bS it j));have h2:=Ou st (bS it j);show (onE it L (gq st (bS it j))).I.length<=_/\(onE it L (gq st (bS it j))).O.length<=_;simp only[List.length_cons];omega
theorem acQ{w:World}{B nm:Nat}{d:Ad}{v:CM}{st:bq}(h:aN w B d v st nm){n:Int}{p j:Nat}(h0:0<=n)(h1:n<=1000)(h2:p<=1000)(hn:nm+1<=1000000)(hE:(st.E (n,p)).length<=1000000)(hin:j∉st.E (n,p))
 (hS:∀it∈st.W (n,p),Small (bS it j)) (hI:st.I.length+(st.W (n,p)).length<=1000000) (hO:st.O.length+(st.W (n,p)).length<=1000000):
 Calls Tryz.prog 130 #[.pointer (some ⟨d.ca,0,none⟩),.agg #[.int .i64 n,.int .i64 p],.int .i64 j] w λr w'=>r= .returned (.tuple #[])/\∃v',aN w' B d v' (kI j (st.W (n,p)) (jH (n,p) j st)) (nm+1)/\Goes d v v' w w':=by
 have k1:=h.alloc (.cells #[.int .i64 n,.int .i64 p] 180);have c7:=(k1.cell (i:=7) rfl (by omega)).1;have l1:=Kv k1.drew (s:=(n,p)) h0 h1 h2 (by omega);unfold jl at l1;simp only at l1;have ct:=Ow (Ox k1.drew (n,p)) (by simpa using hE) j
 have hni:¬((j:Int)∈(st.E (n,p)).map λj:Nat=>(j:Int)):=λhm=>by
  obtain⟨x,hx,e⟩:=jP.1 hm;have hxj:x=j:=by omega
  exact hin (hxj▸hx)
 rw[aU hni]at ct;clear hni;obtain⟨ev,hev⟩:=af (v.VE (n,p));rw[hev]at l1 ct;have Az:Hid (v.VE (n,p)=ev):=hev;obtain⟨st1,l8⟩:=af (jH (n,p) j st);obtain⟨LW,xK⟩:=af (st.W (n,p));have HW1:Hid (st1.W (n,p)=LW):=by show st1.W (n,p)=LW;rw[<-l8];exact xK
 have hI1:st1.I.length=st.I.length:=by rw[<-l8];rfl
 have Cg:st1.O.length=st.O.length:=by rw[<-l8];rfl
 have D9:Hid (jH (n,p) j st=st1):=l8;rw[l8,xK];rw[xK]at hS hI hO;rw[<-hI1]at hI;rw[<-Cg]at hO;clear l8 xK hI1 Cg;have jb:Hid (aN ((w.alloc (.cells #[.int .i64 n,.int .i64 p] 180)).drew) B d v st nm):=k1.drew;have HL:Hid (oK ((w.alloc (.cells #[.int .i64 n,.int .i64 p] 180)).drew) d v w.heap.size n p 180):=oK.mk h n p 180;have HB:Hid (Goes d v v w ((w.alloc (.cells #[.int .i64 n,.int .i64 p] 180)).drew)):=Goes.dI (((ai _ _).alloc (ah _) _).drew);have HS:Hid (∀it∈LW,Small (bS it j)):=hS;clear h k1 hin hev hS
 go_enter Tryz.func130,Tryz.ntmps130
 go_wp2_with fail
 go_cut [15] from 7 (λs15 wx=>s15= .bool false/\wx=(w.alloc (.cells #[.int .i64 n,.int .i64 p] 180)).drew)
 case first=>
  refine xq 7 (by kernel_rfl) (by kernel_rfl) ?_;simp only[List.take_succ_cons,List.take_zero,qP,om]
  repeat still_step
  refine xg ?_
  go_wp2_with (go_at_call 97;refine ct.mono ?_;rintro r w1 ⟨rfl,rfl⟩)
  go_meet
  case rel=>exact⟨rfl,rfl⟩
 case rest=>
  obtain⟨rfl,hwc⟩:=hcut;rw[<-hwc]at jb HL HB;clear hwc l1 ct c7;have k2:=jb.out;have c7:=(k2.cell (i:=7) rfl (by omega)).1;have k3:=k2.alloc (.cells #[.int .i64 j] 3);have d7:=(k3.cell (i:=7) rfl (by omega)).1;obtain⟨b0,b1⟩:=HL.out.cells;have b0':(wc.alloc (.cells #[.int .i64 j] 3)).cell? ⟨w.heap.size,0,none⟩=some (.int .i64 n):=(dB _ _ _ HL.out.2.2).trans b0;have b1':(wc.alloc (.cells #[.int .i64 j] 3)).cell? ⟨w.heap.size,1,none⟩=some (.int .i64 p):=(dB _ _ _ HL.out.2.2).trans b1;obtain⟨z,w5,e5,g5,s5,Gz⟩:=acJ k3.drew (s:=(n,p)) h0 h1 h2 (by omega);unfold jl at e5;simp only at e5;rw[Az.out]at e5;have ho:=k3.own.own (.en (n,p)) _ rfl;simp only[Az.out]at ho;obtain⟨ea,ec,hev⟩:=cO ho;have hoff:ev.ownBlock≠some d.me:=by have:=k3.off (.inr (.inr rfl)) (i:= .en (n,p)) rfl;simpa [Az.out] using this
  have bV:w5.ownsRow B 3 1 ev (st.E (n,p)).length ((st.E (n,p)).map λj:Nat=>Value.int .i64 j):=ho.drew.kept g5 (.inr hoff)
  have hnew:w5.heap[wc.heap.size]?=some (.cells #[.int .i64 j] 3):=by
   rw[g5.block wc.heap.size (by simp) (λe=>by have:=k2.p8.lt;simp at e;omega)];exact heap_alloc_new _ _
  subst hev;have GA:some d.me≠(Value.slice ea (st.E (n,p)).length ec).ownBlock:=λe=>hoff e.symm;have zf:d.me<w5.heap.size:=by rw[s5];exact k3.p8.lt
  have hn1:(st.E (n,p)).length+1<=maxLen:=by unfold maxLen;omega
  have hn2:((st.E (n,p)).length+1)*8<=140737488355328:=by omega
  have aD:B<=w5.heap.size:=by have:=k3.ge.2.2;omega
  have hs5:w5.heap.size=wc.heap.size+1:=by rw[s5];simp
  obtain⟨i0,hi0,hz0,hz1,hz2⟩:=fK Tryz.infoInt;have Ch:Hid (aN ((wc.alloc (.cells #[.int .i64 j] 3)).drew) B d v st nm):=k3.drew;have zh:Hid (World.grownBy ((wc.alloc (.cells #[.int .i64 j] 3)).drew) w5 (some d.me)):=g5;have HST:Hid (∀(w2:World) (val:Value),w2.heap[d.me]?=w5.heap[d.me]?->∃w3,(Instr.entryStore 174 (.map (some d.me)) (.int .i64 z) val).run Tryz.prog w2= .ok () w3/\MapAt Tryz.prog 180 jl w3 d.me (nm+1) (gX (jK st.E v.VE) (n,p) val)/\w2.grownBy w3 (some d.me)/\w3.heap.size=w2.heap.size):=Gz;have zi:Hid (w5.heap.size=((wc.alloc (.cells #[.int .i64 j] 3)).drew).heap.size):=s5;clear k2 k3 ho g5 Gz hoff s5
  go_wp2_with fail
  go_cut [] from 7 (λwx=> ∃Kw,aN wx B d { v with VE:=gI v.VE (n,p) Kw } (jH (n,p) j st) (nm+1)/\Goes d v { v with VE:=gI v.VE (n,p) Kw } wc wx)
  case first=>
   go_region_law
    ((refine wZ _ (by rfl) _ _ _ (by rfl) B 3 i0 _ 1 8 Tryz.underlying39 hi0 hz0 hz1 hz2 rfl (by omega) (.slice ea (st.E (n,p)).length ec) (st.E (n,p)).length ((st.E (n,p)).map λj:Nat=>Value.int .i64 j) (by rfl) bV
       ⟨wc.heap.size,0,none⟩ 1 1 [.int .i64 j] (by rfl) (by rfl) (jh (cs:= #[.int .i64 j]) (t:=3) (fr:=(0,0)) hnew) (by simp[Value.oneCell'])
       (by omega) hn1 hn2 aD (wc.heap.size+1) hs5 ?_;intro g cap w6 hown6 fP oL vN;obtain⟨w7,e7,m7,g7,s7⟩:=HST.out w6 (.slice (some ⟨g,0,none⟩) ((st.E (n,p)).length+1) cap) (fP.block d.me zf GA)))
   all_goals
    go_wp2_with fail
    go_meet
    case rel=>
     have hat':∀g',(Value.slice (some ⟨g,0,none⟩) ((st.E (n,p)).length+1) cap).ownBlock=some g'->(v.VE (n,p)).ownBlock=some g'\/g'=((wc.alloc (.cells #[.int .i64 j] 3)).drew).heap.size:=λg' hg'=>by
      obtain rfl:g=g':=by simpa [Value.ownBlock] using hg'
      rw[Az.out];rcases oL with h5|h5
      ·exact .inl h5
      ·exact .inr (by simpa using h5)
     have r:=Ch.out.jH (j:=j) zh.out zi.out (by rw[Az.out];exact fP) (by simpa using hown6) hat' g7 m7;exact⟨_,r.1,(Goes.dI (((ai _ _).alloc (ah _) _).drew)).trans r.2⟩
  case rest=>
   obtain⟨Kw,k6,g6⟩:=hcut;obtain⟨v6,hv6⟩:∃v6,({ v with VE:=gI v.VE (n,p) Kw }:CM)=v6:=⟨_,rfl⟩;rw[hv6]at k6 g6;have GD:Hid (oK wc d v6 w.heap.size n p 180):=HL.out.goes g6;have Oy:Hid (Goes d v v6 w wc):=HB.out.trans g6;clear hi0 hz0 hz1 hz2 bV hnew GA zf hn1 hn2 aD hs5 Ch zh HST zi e5 c7 d7 b0 b1 b0' b1' HL HB jb Az g6 hv6;rw[D9.out]at k6;clear D9;have l9:Hid (aN wc B d v6 st1 (nm+1)):=k6;have c6:=(k6.cell (i:=6) rfl (by omega)).1;obtain⟨b0,b1⟩:=GD.out.cells;have l6:=UX k6.drew (s:=(n,p)) h0 h1 h2 hn;unfold jl at l6;simp only at l6;have ho:=k6.own.own (.wt (n,p)) _ rfl;simp only[HW1.out]at ho;obtain⟨wa,wk,hwv⟩:=cO ho;rw[hwv]at l6;have Ky:Hid (v6.VW (n,p)= .slice wa LW.length wk):=hwv;clear k6 ho hwv
   go_wp2_with fail
   go_region
   go_wp2_with fail
   clear l6 c6 b0 b1
   go_loopw [34] (λs wr=> ∃(k:Nat) (aL:Value),s= .int .i64 k/\k<=LW.length/\aN wr B d { v6 with ov:=aL } (kI j (LW.take k) st1) (nm+1)/\Goes d v6 { v6 with ov:=aL } wc wr) (λs _=>LW.length-(intOf s).toNat)
   case atStart=>exact⟨0,v6.ov,rfl,aP _,l9.out.drew,(Goes.refl _ _ _).drew⟩
   case round=>
    obtain⟨k,jS,rfl,hk,hC,hG⟩:=hrel;have HG:Hid (Goes d v6 { v6 with ov:=jS } wc wr):=hG;by_cases hlt:k<LW.length
    ·have UY:(kI j (LW.take k) st1).W (n,p)=LW:=by rw[(Puts.kI (Q:=λ_=>True) (L:=LW.take k) (st:=st1) (j:=j) λ_ _=>trivial).W];exact HW1.out
     have ho:=hC.own.own (.wt (n,p)) _ rfl;simp only[UY]at ho;obtain⟨g,cap,hg,_,GH⟩:=ho.form (by omega);have hg':v6.VW (n,p)= .slice (some ⟨g,0,none⟩) LW.length cap:=hg;have hwv:=Ky.out;rw[hg']at hwv;injection hwv with hwa _ hwk;subst hwa;subst hwk;obtain⟨it,hit⟩:=af (LW.getD k ⟨0,0,0,0⟩);obtain⟨q0,q1,q2,q3⟩:=UM ho hg hlt hit;have hmem:it∈LW:=by rw[<-hit];simp[List.getD,hlt]
     have hsm:=HS.out it hmem;have HE:Hid (kI j (LW.take (k+1)) st1=gq (kI j (LW.take k) st1) (bS it j)):=acM hlt hit;have hlen:=acO j (LW.take k) st1;rw[fq,wU hk]at hlen;obtain⟨ra,rb,rc,re⟩:=it;simp only at q0 q1 q2 q3;have on:=Ot (hC.alloc (.cells #[.int .i64 ra,.int .i64 rb,.int .i64 rc,.int .i64 re] 182)) (a:=ra) (b:=rb) (c:=rc) (e:=re) (j:=j) hsm (by omega) (by omega);have i0:(0:Int)<=(k:Int):=aF _;have i1:(k:Int)<(LW.length:Int):=by omega
     clear hC hG ho hg hg' hit hmem hsm hlen UY
     go_wp2_with (go_at_call 132;refine on.mono ?_;rintro r w1 ⟨rfl,xL,h3,h4⟩)
     go_roundw
     case rel=>exact⟨k+1,xL,by go_num,by omega,by rw[HE.out];exact h3,(HG.out.alloc _).trans h4⟩
     case measure=>simp[intOf];omega
    ·obtain rfl:k=LW.length:=by omega
     rw[gH]at hC;have HC:Hid (aN wr B d { v6 with ov:=jS } (kI j LW st1) (nm+1)):=hC;clear hC hG
     go_wp2_with fail
     go_end0
     exact⟨rfl,_,HC.out,Oy.out.trans HG.out⟩
theorem acR{w:World}{B nm:Nat}{d:Ad}{v:CM}{st:bq}(h:aN w B d v st nm){n:Int}{p j:Nat}(h0:0<=n)(h1:n<=1000)(h2:p<=1000)(hn:nm+1<=1000000)(hE:(st.E (n,p)).length<=1000000)
 (hS:∀it∈st.W (n,p),Small (bS it j)) (hI:st.I.length+(st.W (n,p)).length<=1000000) (hO:st.O.length+(st.W (n,p)).length<=1000000):
 Calls Tryz.prog 130 #[.pointer (some ⟨d.ca,0,none⟩),.agg #[.int .i64 n,.int .i64 p],.int .i64 j] w λr w'=>r= .returned (.tuple #[])/\∃v',aN w' B d v' (Aw (n,p) j st) (nm+1)/\Goes d v v' w w':=by
 unfold Aw;split
 ·rename_i hin
  exact(acL h h0 h1 h2 (by omega) hE hin).mono λr w' ⟨a,b,c⟩=>⟨a,v,b.mono (nK _),c⟩
 ·rename_i hin
  exact acQ h h0 h1 h2 hn hE hin hS hI hO
def zk(w:World)(d:Ad)(v:CM)(b:Nat)(it:aX):Prop:=w.heap[b]?=some (.cells #[.int .i64 it.rule,.int .i64 it.read,.int .i64 it.fr,.int .i64 it.upto] 182)/\¬Kc d v b/\b<w.heap.size
theorem zk.goes{w w':World}{d:Ad}{v v':CM}{b:Nat}{it:aX}(h:zk w d v b it)(g:Goes d v v' w w'):zk w' d v' b it:=by
 obtain⟨h1,h2,h3⟩:=g.far h.2.2 h.2.1;exact⟨h1.trans h.1,h2,h3⟩
theorem zk.cells{w:World}{d:Ad}{v:CM}{b:Nat}{it:aX}(h:zk w d v b it):
 w.cell? ⟨b,0,none⟩=some (.int .i64 it.rule)/\w.cell? ⟨b,1,none⟩=some (.int .i64 it.read)/\w.cell? ⟨b,2,none⟩=some (.int .i64 it.fr)/\w.cell? ⟨b,3,none⟩=some (.int .i64 it.upto):=by
 refine⟨?_,?_,?_,?_⟩<;>simp[World.cell?,h.1]
theorem acS{w:World}{B nm:Nat}{d:Ad}{v:CM}{st:bq}{R:List Ru}(h:aN w B d v st nm)(hr:aG w B d.rv R){n:Int}{p a b c e:Nat}(h0:0<=n)(h1:n<=1000)(h2:p<=1000)(hn:nm+1<=1000000)(hR:R.length<=40)
 (hS:∀j∈st.E (n,p),Small (bS ⟨a,b,c,e⟩ j)) (hI:st.I.length+40+(st.E (n,p)).length<=1000000) (hO:st.O.length+40+(st.E (n,p)).length<=1000000) (GI:(st.W (n,p)).length<=1000000):
 Calls Tryz.prog 131 #[.pointer (some ⟨d.ca,0,none⟩),.agg #[.int .i64 n,.int .i64 p],.agg #[.int .i64 a,.int .i64 b,.int .i64 c,.int .i64 e]] w λr w'=>r= .returned (.tuple #[])/\∃v',aN w' B d v' (xI R (n,p) ⟨a,b,c,e⟩ st) (nm+1)/\Goes d v v' w w':=by
 obtain⟨st1,l8⟩:=af ((if st.W (n,p)=[] then gN R (n,p) R.length st else st));obtain⟨LE,Ea⟩:=af (st.E (n,p));obtain⟨LW,xK⟩:=af (st.W (n,p))
 have hp1:Puts (λ_=>True) st st1:=by
  rw[<-l8];split
  ·exact Puts.begin λ_ _ _=>trivial
  ·exact Puts.refl _ _
 have hlen:st1.I.length<=st.I.length+40/\st1.O.length<=st.O.length+40:=by
  rw[<-l8];split
  ·have:=UR R (n,p) st R.length;omega
  ·omega
 have HW1:Hid (st1.W (n,p)=LW):=by show st1.W (n,p)=LW;rw[hp1.W];exact xK
 have AA:Hid (st1.E (n,p)=LE):=by show st1.E (n,p)=LE;rw[hp1.E];exact Ea
 have D9:Hid ((if st.W (n,p)=[] then gN R (n,p) R.length st else st)=st1):=l8
 have hgoal:xI R (n,p) ⟨a,b,c,e⟩ st=onE ⟨a,b,c,e⟩ LE (iZ (n,p) ⟨a,b,c,e⟩ st1):=by
  unfold xI;simp only[l8,Ea]
 rw[hgoal];obtain⟨st2,Eb⟩:=af (iZ (n,p) ⟨a,b,c,e⟩ st1);have HE2:Hid (st2.E (n,p)=LE):=by show st2.E (n,p)=LE;rw[<-Eb];exact AA.out
 have hI2:st2.I.length+LE.length<=1000000:=by
  rw[Ea]at hI;have:st2.I.length=st1.I.length:=by rw[<-Eb];rfl
  omega
 have hO2:st2.O.length+LE.length<=1000000:=by
  rw[Ea]at hO;have:st2.O.length=st1.O.length:=by rw[<-Eb];rfl
  omega
 have UZ:Hid (iZ (n,p) ⟨a,b,c,e⟩ st1=st2):=Eb;rw[Eb];rw[Ea]at hS hI hO;rw[xK]at GI;have k1:=(h.alloc (.cells #[.int .i64 n,.int .i64 p] 180)).alloc (.cells #[.int .i64 a,.int .i64 b,.int .i64 c,.int .i64 e] 182);have hL0:oK (((w.alloc (.cells #[.int .i64 n,.int .i64 p] 180)).alloc (.cells #[.int .i64 a,.int .i64 b,.int .i64 c,.int .i64 e] 182)).drew) d v w.heap.size n p 180:=(oK.mk h n p 180).goes (((Goes.refl d v _).alloc _).drew)
 have U0:zk (((w.alloc (.cells #[.int .i64 n,.int .i64 p] 180)).alloc (.cells #[.int .i64 a,.int .i64 b,.int .i64 c,.int .i64 e] 182)).drew) d v (w.heap.size+1) ⟨a,b,c,e⟩:=by
  refine⟨?_,λhk=>by have:=(h.kc hk).2;omega,by simp⟩;have:=heap_alloc_new (w.alloc (.cells #[.int .i64 n,.int .i64 p] 180)) (.cells #[.int .i64 a,.int .i64 b,.int .i64 c,.int .i64 e] 182);simp only[lU]at this;exact this
 have c6:=(k1.cell (i:=6) rfl (by omega)).1;have l1:=UX k1.drew (s:=(n,p)) h0 h1 h2 (by omega);unfold jl at l1;simp only at l1;have ho:=k1.own.own (.wt (n,p)) _ rfl;simp only[xK]at ho;obtain⟨wa,wk,hwv⟩:=cO ho;rw[hwv]at l1;have Ky:Hid (v.VW (n,p)= .slice wa LW.length wk):=hwv;have jb:Hid (aN (((w.alloc (.cells #[.int .i64 n,.int .i64 p] 180)).alloc (.cells #[.int .i64 a,.int .i64 b,.int .i64 c,.int .i64 e] 182)).drew) B d v st nm):=k1.drew;have HL:Hid (oK (((w.alloc (.cells #[.int .i64 n,.int .i64 p] 180)).alloc (.cells #[.int .i64 a,.int .i64 b,.int .i64 c,.int .i64 e] 182)).drew) d v w.heap.size n p 180):=hL0;have Ec:Hid (zk (((w.alloc (.cells #[.int .i64 n,.int .i64 p] 180)).alloc (.cells #[.int .i64 a,.int .i64 b,.int .i64 c,.int .i64 e] 182)).drew) d v (w.heap.size+1) ⟨a,b,c,e⟩):=U0;have hb1:Below w.heap.size w (((w.alloc (.cells #[.int .i64 n,.int .i64 p] 180)).alloc (.cells #[.int .i64 a,.int .i64 b,.int .i64 c,.int .i64 e] 182)).drew):=(((ai _ _).alloc (ah _) _).alloc (by simp) _).drew;have HB:Hid (Goes d v v w (((w.alloc (.cells #[.int .i64 n,.int .i64 p] 180)).alloc (.cells #[.int .i64 a,.int .i64 b,.int .i64 c,.int .i64 e] 182)).drew)):=Goes.dI hb1;have HR:Hid (aG (((w.alloc (.cells #[.int .i64 n,.int .i64 p] 180)).alloc (.cells #[.int .i64 a,.int .i64 b,.int .i64 c,.int .i64 e] 182)).drew) B d.rv R):=hr.below (h.rC (Goes.dI (d:=d) (v:=v) hb1));have HS:Hid (∀j∈LE,Small (bS ⟨a,b,c,e⟩ j)):=hS;have hempty:st.W (n,p)=[]↔LW.length=0:=by rw[xK];simp
 have Oz:Hid (st.W (n,p)=[]↔LW.length=0):=hempty;obtain⟨z,hz⟩:=af (((LW.length:Int)==0));have HZ:Hid (z=true↔LW.length=0):=by show z=true↔LW.length=0;rw[<-hz];simp
 clear h k1 hS l8 Eb Ea xK hp1 hgoal ho hwv hb1 hr hL0 U0 hempty
 go_enter Tryz.func131,Tryz.ntmps131
 go_wp2_with fail
 go_cut [15] from 7 (λs15 wx=>s15= .bool z/\wx=((w.alloc (.cells #[.int .i64 n,.int .i64 p] 180)).alloc (.cells #[.int .i64 a,.int .i64 b,.int .i64 c,.int .i64 e] 182)).drew)
 case first=>
  go_region
  go_wp2_with fail
  go_meet
  case rel=>exact⟨rfl,rfl⟩
 case rest=>
  obtain⟨rfl,hwc⟩:=hcut;rw[<-hwc]at jb HL Ec HB HR;clear hwc l1 c6 hz;obtain⟨b0,b1⟩:=HL.out.cells
  go_upto_if 15 with fail
  go_cut [] from 7 (λwx=> ∃jS,aN wx B d { v with ov:=jS } st1 nm/\Goes d v { v with ov:=jS } wc wx)
  case first=>
   cases z with
   |true=>
    have hE:st1=gN R (n,p) R.length st:=by rw[<-D9.out,au (Oz.out.2 (HZ.out.1 rfl))]
    have bg:=UU jb.out HR.out (n:=n) (p:=p) hR h2 (by omega) (by omega);rw[<-hE]at bg;clear hE
    go_wp2_with (go_at_call 95;refine bg.mono ?_;rintro r w1 ⟨rfl,jS,h3,h4⟩)
    go_meet
    case rel=>exact⟨jS,h3,h4⟩
   |false=>
    have hne:¬st.W (n,p)=[]:=λe=>by have:=HZ.out.2 (Oz.out.1 e);cases this
    have HE:Hid (st=st1):=by show st=st1;rw[<-D9.out,aj hne]
    clear hne
    go_wp2_with fail
    go_meet
    case rel=>exact⟨v.ov,by rw[<-HE.out];exact jb.out,Goes.refl _ _ _⟩
  case rest=>
   obtain⟨jS,k2,g2⟩:=hcut;obtain⟨v2,hv2⟩:∃v2,({ v with ov:=jS }:CM)=v2:=⟨_,rfl⟩;have Ed:Hid (v2.VW (n,p)= .slice wa LW.length wk):=by show v2.VW (n,p)=_;rw[<-hv2];exact Ky.out
   rw[hv2]at k2 g2;have HL2:Hid (oK wc d v2 w.heap.size n p 180):=HL.out.goes g2;have OA:Hid (zk wc d v2 (w.heap.size+1) ⟨a,b,c,e⟩):=Ec.out.goes g2;have HB2:Hid (Goes d v v2 w wc):=HB.out.trans g2;clear hv2 g2 HL Ec HB HR jb Ky D9 Oz HZ b0 b1 hI hO hlen;have c6:=(k2.cell (i:=6) rfl (by omega)).1;have k3:=k2.alloc (.cells #[.int .i64 a,.int .i64 b,.int .i64 c,.int .i64 e] 182);have d6:=(k3.cell (i:=6) rfl (by omega)).1;obtain⟨b0,b1⟩:=HL2.out.cells;obtain⟨q0,q1,q2,q3⟩:=OA.out.cells;simp only at q0 q1 q2 q3;have b0':(wc.alloc (.cells #[.int .i64 a,.int .i64 b,.int .i64 c,.int .i64 e] 182)).cell? ⟨w.heap.size,0,none⟩=some (.int .i64 n):=(dB _ _ _ HL2.out.2.2).trans b0;have b1':(wc.alloc (.cells #[.int .i64 a,.int .i64 b,.int .i64 c,.int .i64 e] 182)).cell? ⟨w.heap.size,1,none⟩=some (.int .i64 p):=(dB _ _ _ HL2.out.2.2).trans b1;obtain⟨z5,w5,e5,g5,s5,Gz⟩:=acK k3.drew (s:=(n,p)) h0 h1 h2 (by omega);unfold jl at e5;simp only at e5;rw[Ed.out]at e5;have ho:=k3.own.own (.wt (n,p)) _ rfl;simp only[Ed.out,HW1.out]at ho;have hoff:(Value.slice wa LW.length wk).ownBlock≠some d.mw:=by have:=k3.off (.inr (.inl rfl)) (i:= .wt (n,p)) rfl;simpa [Ed.out] using this
   have bV:w5.ownsRow B 182 4 (.slice wa LW.length wk) LW.length (LW.flatMap jJ):=ho.drew.kept g5 (.inr hoff)
   have hnew:w5.heap[wc.heap.size]?=some (.cells #[.int .i64 a,.int .i64 b,.int .i64 c,.int .i64 e] 182):=by
    rw[g5.block wc.heap.size (by simp) (λe=>by have:=k2.pY.lt;simp at e;omega)];exact heap_alloc_new _ _
   have GA:some d.mw≠(Value.slice wa LW.length wk).ownBlock:=λe=>hoff e.symm;have zf:d.mw<w5.heap.size:=by rw[s5];exact k3.pY.lt
   have hn1:LW.length+1<=maxLen:=by unfold maxLen;omega
   have hn2:(LW.length+1)*32<=140737488355328:=by omega
   have aD:B<=w5.heap.size:=by have:=k3.ge.2.1;omega
   have hs5:w5.heap.size=wc.heap.size+1:=by rw[s5];simp
   obtain⟨i0,hi0,hz0,hz1,hz2⟩:=fK Tryz.infoItm;have Ch:Hid (aN ((wc.alloc (.cells #[.int .i64 a,.int .i64 b,.int .i64 c,.int .i64 e] 182)).drew) B d v2 st1 nm):=k3.drew;have zh:Hid (World.grownBy ((wc.alloc (.cells #[.int .i64 a,.int .i64 b,.int .i64 c,.int .i64 e] 182)).drew) w5 (some d.mw)):=g5;have HST:Hid (∀(w2:World) (val:Value),w2.heap[d.mw]?=w5.heap[d.mw]?->∃w3,(Instr.entryStore 173 (.map (some d.mw)) (.int .i64 z5) val).run Tryz.prog w2= .ok () w3/\MapAt Tryz.prog 180 jl w3 d.mw (nm+1) (gX (jK st1.W v2.VW) (n,p) val)/\w2.grownBy w3 (some d.mw)/\w3.heap.size=w2.heap.size):=Gz;have zi:Hid (w5.heap.size=((wc.alloc (.cells #[.int .i64 a,.int .i64 b,.int .i64 c,.int .i64 e] 182)).drew).heap.size):=s5;clear k2 k3 ho g5 Gz hoff s5
   go_wp2_with fail
   go_cut [] from 7 (λwx=> ∃Kz,aN wx B d { v2 with VW:=gI v2.VW (n,p) Kz } st2 (nm+1)/\Goes d v2 { v2 with VW:=gI v2.VW (n,p) Kz } wc wx)
   case first=>
    go_region_law
     ((refine wZ _ (by rfl) _ _ _ (by rfl) B 182 i0 _ 4 32 Tryz.underlying175 hi0 hz0 hz1 hz2 rfl (by omega) (.slice wa LW.length wk) LW.length (LW.flatMap jJ) (by rfl) bV
        ⟨wc.heap.size,0,none⟩ 1 1 [.int .i64 a,.int .i64 b,.int .i64 c,.int .i64 e] (by rfl) (by rfl) (jh (cs:= #[.int .i64 a,.int .i64 b,.int .i64 c,.int .i64 e]) (t:=182) (fr:=(0,0)) hnew) (by simp[Value.oneCell'])
        (by omega) hn1 hn2 aD (wc.heap.size+1) hs5 ?_;intro g cap w6 hown6 fP oL vN;obtain⟨w7,e7,m7,g7,s7⟩:=HST.out w6 (.slice (some ⟨g,0,none⟩) (LW.length+1) cap) (fP.block d.mw zf GA)))
    all_goals
     go_wp2_with fail
     go_meet
     case rel=>
      have hat':∀g',(Value.slice (some ⟨g,0,none⟩) (LW.length+1) cap).ownBlock=some g'->(v2.VW (n,p)).ownBlock=some g'\/g'=((wc.alloc (.cells #[.int .i64 a,.int .i64 b,.int .i64 c,.int .i64 e] 182)).drew).heap.size:=λg' hg'=>by
       obtain rfl:g=g':=by simpa [Value.ownBlock] using hg'
       rw[Ed.out];rcases oL with h5|h5
       ·exact .inl h5
       ·exact .inr (by simpa using h5)
      have r:=Ch.out.iZ (it:=⟨a,b,c,e⟩) zh.out zi.out (by rw[Ed.out];exact fP) (by rw[HW1.out];simpa [List.flatMap_append,jJ] using hown6) hat' g7 m7;rw[UZ.out]at r;exact⟨_,r.1,(Goes.dI (((ai _ _).alloc (ah _) _).drew)).trans r.2⟩
   case rest=>
    obtain⟨Kz,k6,g6⟩:=hcut;obtain⟨v6,hv6⟩:∃v6,({ v2 with VW:=gI v2.VW (n,p) Kz }:CM)=v6:=⟨_,rfl⟩;rw[hv6]at k6 g6;have GD:Hid (oK wc d v6 w.heap.size n p 180):=HL2.out.goes g6;have acT:Hid (zk wc d v6 (w.heap.size+1) ⟨a,b,c,e⟩):=OA.out.goes g6;have Oy:Hid (Goes d v v6 w wc):=HB2.out.trans g6;clear hi0 hz0 hz1 hz2 bV hnew GA zf hn1 hn2 aD hs5 Ch zh HST zi e5 c6 d6 b0 b1 b0' b1' q0 q1 q2 q3 HL2 OA HB2 Ed g6 hv6 UZ AA HW1;have l9:Hid (aN wc B d v6 st2 (nm+1)):=k6;have c7:=(k6.cell (i:=7) rfl (by omega)).1;obtain⟨b0,b1⟩:=GD.out.cells;have l6:=Kv k6.drew (s:=(n,p)) h0 h1 h2 hn;unfold jl at l6;simp only at l6;have ho:=k6.own.own (.en (n,p)) _ rfl;simp only[HE2.out]at ho;obtain⟨ea,ek,hev⟩:=cO ho;rw[hev]at l6;have Az:Hid (v6.VE (n,p)= .slice ea LE.length ek):=hev;clear k6 ho hev
    go_wp2_with fail
    go_region
    go_wp2_with fail
    clear l6 c7 b0 b1
    go_loopw [37] (λs wr=> ∃(k:Nat) (aL:Value),s= .int .i64 k/\k<=LE.length/\aN wr B d { v6 with ov:=aL } (onE ⟨a,b,c,e⟩ (LE.take k) st2) (nm+1)/\Goes d v6 { v6 with ov:=aL } wc wr) (λs _=>LE.length-(intOf s).toNat)
    case atStart=>exact⟨0,v6.ov,rfl,aP _,l9.out.drew,(Goes.refl _ _ _).drew⟩
    case round=>
     obtain⟨k,jS,rfl,hk,hC,hG⟩:=hrel;have HG:Hid (Goes d v6 { v6 with ov:=jS } wc wr):=hG;by_cases hlt:k<LE.length
     ·have hEk:(onE ⟨a,b,c,e⟩ (LE.take k) st2).E (n,p)=LE:=by rw[(Puts.onE (Q:=λ_=>True) (L:=LE.take k) (st:=st2) (it:=⟨a,b,c,e⟩) λ_ _=>trivial).E];exact HE2.out
      have ho:=hC.own.own (.en (n,p)) _ rfl;simp only[hEk]at ho;obtain⟨g,cap,hg,_,GH⟩:=ho.form (by omega);have hg':v6.VE (n,p)= .slice (some ⟨g,0,none⟩) LE.length cap:=hg;have hev:=Az.out;rw[hg']at hev;injection hev with hea _ hek;subst hea;subst hek;obtain⟨j,hj⟩:=af (LE.getD k 0);have q0:=UN ho hg hlt hj;obtain⟨p0,p1,p2,p3⟩:=(acT.out.goes hG).cells;simp only at p0 p1 p2 p3;have hmem:j∈LE:=by rw[<-hj];simp[List.getD,hlt]
      have hsm:=HS.out j hmem;have HE:Hid (onE ⟨a,b,c,e⟩ (LE.take (k+1)) st2=gq (onE ⟨a,b,c,e⟩ (LE.take k) st2) (bS ⟨a,b,c,e⟩ j)):=acN hlt hj;have hlen:=acP ⟨a,b,c,e⟩ (LE.take k) st2;rw[fq,wU hk]at hlen;have on:=Ot hC (a:=a) (b:=b) (c:=c) (e:=e) (j:=j) hsm (by omega) (by omega);have i0:(0:Int)<=(k:Int):=aF _;have i1:(k:Int)<(LE.length:Int):=by omega
      clear hC hG ho hg hg' hj hmem hsm hlen hEk
      go_wp2_with (go_at_call 132;refine on.mono ?_;rintro r w1 ⟨rfl,xL,h3,h4⟩)
      go_roundw
      case rel=>exact⟨k+1,xL,by go_num,by omega,by rw[HE.out];exact h3,HG.out.trans h4⟩
      case measure=>simp[intOf];omega
     ·obtain rfl:k=LE.length:=by omega
      rw[gH]at hC;have HC:Hid (aN wr B d { v6 with ov:=jS } (onE ⟨a,b,c,e⟩ LE st2) (nm+1)):=hC;clear hC hG
      go_wp2_with fail
      go_end0
      exact⟨rfl,_,HC.out,Oy.out.trans HG.out⟩
structure Fits(R:List Ru)(tok:List Int)(it:aX):Prop where
 rule:it.rule<R.length
 read:it.read<=(R.getD it.rule (0,[])).2.length
 fr:it.fr<=30
 upto:it.upto<=30
 R40:R.length<=40
 r8:(R.getD it.rule (0,[])).2.length<=8
 l0:0<=(R.getD it.rule (0,[])).1
 l1:(R.getD it.rule (0,[])).1<=1000
 s0:∀s∈(R.getD it.rule (0,[])).2,0<=s.2/\s.2<=1000
 tok:tok.length<=30
theorem acU{w:World}{B nm:Nat}{d:Ad}{v:CM}{st:bq}{R:List Ru}{tok:List Int}(h:aN w B d v st nm)(hr:aG w B d.rv R)(ht:aY w B d.tv tok){a b c e:Nat}(hF:Fits R tok ⟨a,b,c,e⟩)(hn:nm+1<=1000000)
 (hI:st.I.length<=345960) (hO:st.O.length<=345960) (GI:∀s,(st.W s).length<=345960) (hEl:∀s,(st.E s).length<=345960) (hWs:∀s,∀it∈st.W s,Small (bS it e)) (hEs:∀s,∀j∈st.E s,Small (bS ⟨a,b,c,e⟩ j)):
 Calls Tryz.prog 96 #[.pointer (some ⟨d.ca,0,none⟩),.agg #[.int .i64 a,.int .i64 b,.int .i64 c,.int .i64 e]] w λr w'=>r= .returned (.tuple #[])/\∃v',aN w' B d v' (jY R tok ⟨a,b,c,e⟩ st) (nm+1)/\Goes d v v' w w':=by
 obtain⟨f1,f2,f3,f4,f5,f6,f7,f8,f9,f10⟩:=hF;simp only at f1 f2 f3 f4 f5 f6 f7 f8 f9 f10;obtain⟨ra,rc,aI⟩:=hr.1;obtain⟨rb,ro,rc',qa,qc,hv,hrb,k1,k2,hqc,k3⟩:=hr.2 a f1;have hB:B<=w.heap.size:=by have:=h.ge.1;have:=h.pX.lt;omega
 obtain⟨⟨L,Rt⟩,hre⟩:=af (R.getD a (0,[]));rw[hre]at k1 k2 k3 f2 f6 f7 f8 f9 hqc;simp only at k1 k2 k3 f2 f6 f7 f8 f9 hqc;have acV:R.length=R.length:=rfl;have hb1:Below w.heap.size w (w.alloc (.cells #[.int .i64 a,.int .i64 b,.int .i64 c,.int .i64 e] 182)):=(ai _ _).alloc (ah _) _;have j1:=h.alloc (.cells #[.int .i64 a,.int .i64 b,.int .i64 c,.int .i64 e] 182);have j2:=j1.alloc (.cells #[.int .i64 0,.slice none 0 0] 96);have c2:=(j1.cell (i:=2) rfl (by omega)).1;have d2:=(j2.cell (i:=2) rfl (by omega)).1;rw[hv]at c2 d2
 have past:∀(o o':Obj) (x y:Nat),x<B->((w.alloc o).alloc o').cell? ⟨x,y,none⟩=w.cell? ⟨x,y,none⟩/\(w.alloc o).cell? ⟨x,y,none⟩=w.cell? ⟨x,y,none⟩:=λo o' x y hx=>
  ⟨(dB _ _ _ (by simp;omega)).trans (dB _ _ _ (by omega)),dB _ _ _ (by omega)⟩
 have x1:=((past (.cells #[.int .i64 a,.int .i64 b,.int .i64 c,.int .i64 e] 182) (.cells #[.int .i64 0,.slice none 0 0] 96) rb (ro+a*2) hrb).2).trans k1;have y1:=((past (.cells #[.int .i64 a,.int .i64 b,.int .i64 c,.int .i64 e] 182) (.cells #[.int .i64 0,.slice none 0 0] 96) rb (ro+a*2) hrb).1).trans k1;have k2':w.cell? ⟨rb,ro+a*2+1,none⟩=some (.slice qa Rt.length qc):=by rw[kF];exact k2
 have x2:=((past (.cells #[.int .i64 a,.int .i64 b,.int .i64 c,.int .i64 e] 182) (.cells #[.int .i64 0,.slice none 0 0] 96) rb (ro+a*2+1) hrb).2).trans k2';have y2:=((past (.cells #[.int .i64 a,.int .i64 b,.int .i64 c,.int .i64 e] 182) (.cells #[.int .i64 0,.slice none 0 0] 96) rb (ro+a*2+1) hrb).1).trans k2';have i0:(0:Int)<=(a:Int):=aF _;have i1:(a:Int)<(R.length:Int):=by omega
 obtain⟨rl,hrl⟩:=af R.length;obtain⟨m,hm⟩:=af Rt.length;have H:Hid (aN w B d v st nm):=h;have HR:Hid (aG w B d.rv R):=hr;have HT:Hid (aY w B d.tv tok):=ht;have HRe:Hid (R.getD a (0,[])=(L,Rt)):=hre;have HM:Hid (Rt.length=m):=hm;have U1:Hid (R.length=rl):=hrl;rw[hrl]at c2 d2 i1;rw[hm]at x2 y2 f2 f6;clear h hr ht j1 j2 hv hre past k1 k2 k2' aI hrl hm acV hb1;have hj:=af (((w.alloc (.cells #[.int .i64 a,.int .i64 b,.int .i64 c,.int .i64 e] 182)).alloc (.cells #[.int .i64 L,.slice qa m qc] 96)).drew);obtain⟨W2,hW2⟩:=hj;have hbW:Below w.heap.size w W2:=by rw[<-hW2];exact(((ai _ _).alloc (ah _) _).alloc (by simp) _).drew
 have u0:W2.cell? ⟨w.heap.size,0,none⟩=some (.int .i64 a):=by rw[<-hW2];simp[go_sem]
 have u1:W2.cell? ⟨w.heap.size,1,none⟩=some (.int .i64 b):=by rw[<-hW2];simp[go_sem]
 have u2:W2.cell? ⟨w.heap.size,2,none⟩=some (.int .i64 c):=by rw[<-hW2];simp[go_sem]
 have u3:W2.cell? ⟨w.heap.size,3,none⟩=some (.int .i64 e):=by rw[<-hW2];simp[go_sem]
 have u4:W2.cell? ⟨w.heap.size+1,0,none⟩=some (.int .i64 L):=by rw[<-hW2];simp[go_sem]
 have u5:W2.cell? ⟨w.heap.size+1,1,none⟩=some (.slice qa m qc):=by rw[<-hW2];simp[go_sem]
 have HW2:Hid (((w.alloc (.cells #[.int .i64 a,.int .i64 b,.int .i64 c,.int .i64 e] 182)).alloc (.cells #[.int .i64 L,.slice qa m qc] 96)).drew=W2):=hW2;have hs2:W2.heap.size=w.heap.size+2:=by rw[<-hW2];simp
 clear hW2;have DX:Hid (Below w.heap.size w W2):=hbW;have fQ:Hid (aN W2 B d v st nm):=H.out.below hbW
 have KA:Hid (jY R tok ⟨a,b,c,e⟩ st=if b=m then Aw (L,c) e st else if (Rt.getD b (false,0)).1=false then xI R ((Rt.getD b (false,0)).2,e) ⟨a,b,c,e⟩ st else if e<tok.length/\tok.getD e 0=(Rt.getD b (false,0)).2 then gq st (bS ⟨a,b,c,e⟩ (e+1)) else st):=by
  show jY R tok ⟨a,b,c,e⟩ st=_;unfold jY;simp only[HRe.out,HM.out]
 clear hbW
 go_enter Tryz.func96,Tryz.ntmps96
 go_wp2_with fail
 go_cut [4] from 5 (λs4 wx=>s4= .pointer (some ⟨w.heap.size+1,0,none⟩)/\wx=W2)
 case first=>
  go_region
  all_goals
   go_wp2_with fail
   go_meet
   case rel=>exact⟨by simp,HW2.out⟩
 case rest=>
  obtain⟨rfl,hwc⟩:=hcut;rw[hwc];clear hwc c2 d2 x1 x2 y1 y2 HW2;by_cases GJ:b=m
  ·subst GJ
   have en:=acR fQ.out (n:=L) (p:=c) (j:=e) f7 f8 (by omega) hn (by have:=hEl (L,c);omega) (hWs (L,c)) (by have:=GI (L,c);omega) (by have:=GI (L,c);omega);have HE:Hid (jY R tok ⟨a,b,c,e⟩ st=Aw (L,c) e st):=by show jY R tok ⟨a,b,c,e⟩ st=_;rw[KA.out,au rfl]
   clear k3 KA
   go_wp2_with (go_at_call 130;refine en.mono ?_;rintro r w1 ⟨rfl,v',h3,h4⟩)
   refine aH (v:= .tuple #[]) (Af Tryz.results96 _ _ _) rfl ?_;exact⟨rfl,v',by rw[HE.out];exact h3,(Goes.dI DX.out).trans h4⟩
  ·have hb:b<Rt.length:=by rw[HM.out];omega
   have ajb:((b:Int)==(m:Int))=false:=by simp;omega
   obtain⟨sb,so,rfl,hsb,k4,k5⟩:=k3 b hb;have hmem:Rt.getD b (false,0)∈Rt:=by simp[List.getD,hb]
   have hsy:=f9 _ hmem;obtain⟨⟨t,s⟩,OB⟩:=af (Rt.getD b (false,0));rw[OB]at k4 k5 hsy;simp only at k4 k5 hsy;have v4:W2.cell? ⟨sb,so+b*2,none⟩=some (.bool t):=(DX.out.cell (by simp only;omega)).trans k4;have v5:W2.cell? ⟨sb,so+b*2+1,none⟩=some (.int .i64 s):=by rw[kF];exact(DX.out.cell (by simp only;omega)).trans k5
   have b0:(0:Int)<=(b:Int):=aF _;have b1:(b:Int)<(m:Int):=by omega
   have HE:Hid (jY R tok ⟨a,b,c,e⟩ st=if t=false then xI R (s,e) ⟨a,b,c,e⟩ st else if e<tok.length/\tok.getD e 0=s then gq st (bS ⟨a,b,c,e⟩ (e+1)) else st):=by
    show jY R tok ⟨a,b,c,e⟩ st=_;rw[KA.out,aj GJ,OB]
   have HB3:Hid (Below w.heap.size w (W2.alloc (.cells #[.bool t,.int .i64 s] 121))):=DX.out.alloc (by omega) _;have GK:∀(x y:Nat),x<W2.heap.size->(W2.alloc (.cells #[.bool t,.int .i64 s] 121)).cell? ⟨x,y,none⟩=W2.cell? ⟨x,y,none⟩:=λx y hx=>dB _ _ _ hx;have q0:=(GK w.heap.size 0 (by omega)).trans u0;have q1:=(GK w.heap.size 1 (by omega)).trans u1;have q2:=(GK w.heap.size 2 (by omega)).trans u2;have q3:=(GK w.heap.size 3 (by omega)).trans u3;have k6:=fQ.out.alloc (.cells #[.bool t,.int .i64 s] 121);have l9:Hid (aN (W2.alloc (.cells #[.bool t,.int .i64 s] 121)) B d v st nm):=k6;have hBw:=H.out.rC (Goes.dI (d:=d) (v:=v) HB3.out);clear k3 k4 k5 hmem OB KA GK f9;cases t with
   |false=>
    have wt:=acS k6 (HR.out.below hBw) (n:=s) (p:=e) (a:=a) (b:=b) (c:=c) (e:=e) hsy.1 hsy.2 (by omega) hn f5 (hEs (s,e)) (by have:=hEl (s,e);omega) (by have:=hEl (s,e);omega) (by have:=GI (s,e);omega);have HE2:Hid (jY R tok ⟨a,b,c,e⟩ st=xI R (s,e) ⟨a,b,c,e⟩ st):=by show jY R tok ⟨a,b,c,e⟩ st=_;rw[HE.out,au rfl]
    clear k6 hBw HE
    go_wp2_with (go_at_call 131;refine wt.mono ?_;rintro r w1 ⟨rfl,v',h3,h4⟩)
    refine aH (v:= .tuple #[]) (Af Tryz.results96 _ _ _) rfl ?_;exact⟨rfl,v',by rw[HE2.out];exact h3,(Goes.dI HB3.out).trans h4⟩
   |true=>
    have c3:=(k6.cell (i:=3) rfl (by omega)).1;obtain⟨ta,tc,gu⟩:=HT.out.1;rw[gu]at c3;have HT3:Hid (aY (W2.alloc (.cells #[.bool true,.int .i64 s] 121)) B (.slice ta tok.length tc) tok):=by rw[gu]at HT;exact HT.out.below hBw
    clear k6 hBw gu;by_cases OC:e<tok.length
    ·obtain⟨tb,to_,U2,hte,htb,x1⟩:=HT3.out.2 e OC
     injection hte with h5 _ h6;subst h5;subst h6;obtain⟨x,hx⟩:=af (tok.getD e 0);rw[hx]at x1 HE;obtain⟨tl,htl⟩:=af tok.length;rw[htl]at c3 OC;have e0:(0:Int)<=(e:Int):=aF _;have e1:(e:Int)<(tl:Int):=by omega
     have e2:e<tok.length:=by omega
     by_cases hxs:x=s
     ·subst hxs
      have HE2:Hid (jY R tok ⟨a,b,c,e⟩ st=gq st (bS ⟨a,b,c,e⟩ (e+1))):=by show jY R tok ⟨a,b,c,e⟩ st=_;rw[HE.out,aj (by simp),au ⟨e2,rfl⟩]
      have on:∀nq,Calls Tryz.prog 132 #[.pointer (some ⟨d.ca,0,none⟩),.agg #[.int .i64 a,.int .i64 b,.int .i64 c,.int .i64 e],.int .i64 ((e:Int)+1)] ((W2.alloc (.cells #[.bool true,.int .i64 x] 121)).drewN nq) λr w'=>r= .returned (.tuple #[])/\∃aL,aN w' B d { v with ov:=aL } (gq st (bS ⟨a,b,c,e⟩ (e+1))) nm/\Goes d v { v with ov:=aL } ((W2.alloc (.cells #[.bool true,.int .i64 x] 121)).drewN nq) w':=λnq=>
       Ot (l9.out.below (iR (ai _ _) nq)) (a:=a) (b:=b) (c:=c) (e:=e) (j:=e+1) ⟨by simp[bS];omega,by simp[bS];omega,by simp[bS];omega,by simp[bS];omega⟩ (by omega) (by omega)
      clear hx HE HT3 htl e2
      go_wp2_with fail
      go_big_quiet (fail)
      go_wp2_with (go_at_call 132;refine(on _).mono ?_;rintro r w1 ⟨rfl,v',h3,h4⟩)
      go_end0
      exact⟨rfl,_,by rw[HE2.out];exact h3.mono (nK _),(Goes.dI (iR HB3.out _)).trans h4⟩
     ·have hxs':(x==s)=false:=by simpa using hxs
      have HE2:Hid (jY R tok ⟨a,b,c,e⟩ st=st):=by show jY R tok ⟨a,b,c,e⟩ st=_;rw[HE.out,aj (by simp),aj (λh=>hxs h.2)]
      clear hx HE HT3 htl e2
      go_wp2_with fail
      go_big_quiet (fail)
      go_wp2_with fail
      go_end0
      exact⟨rfl,_,by rw[HE2.out];exact(l9.out.below (iR (ai _ _) _)).mono (nK _),Goes.dI (iR HB3.out _)⟩
    ·have HE2:Hid (jY R tok ⟨a,b,c,e⟩ st=st):=by show jY R tok ⟨a,b,c,e⟩ st=_;rw[HE.out,aj (by simp),aj (λh=>OC h.1)]
     have e1:decide ((e:Int)<(tok.length:Int))=false:=aU (by omega);clear HE HT3
     go_wp2_with fail
     go_big_quiet (fail)
     go_wp2_with fail
     go_end0
     exact⟨rfl,_,by rw[HE2.out];exact(l9.out.below (iR (ai _ _) _)).mono (nK _),Goes.dI (iR HB3.out _)⟩
end Go.Proofs.YthbifaoaiggooaaGreatDoor
