import Derived.Test.YtblkkhfdeaaidaaGreatDoorTkFlAndTkSort
import Derived.Laws.AppendOwnNone
set_option maxHeartbeats 6400000
set_option maxRecDepth 100000
namespace Go.Proofs.YtblkkhfdeaaidaaGreatDoor
open Go.RowKit
theorem Sv{w:World}{lim b o c:Nat}{L:List It}(h:iI w lim (.slice (some ⟨b,o,none⟩) L.length c) L):∀j u,(L.flatMap aT)[j]?=some u->w.cell? ((⟨b,o,none⟩:Addr).add j)=some u:=fun j u hu=>by
 have hadd:(⟨b,o,none⟩:Addr).add j=⟨b,o+j,none⟩:=by unfold Addr.add;split<;>simp_all
 rw[hadd];have hj:j<L.length*2:=by rw[<-DK];exact(List.getElem?_eq_some_iff.1 hu).1
 obtain⟨k,hk⟩:∃k,j=k*2\/j=k*2+1:=⟨j/2,by omega⟩;have hkl:k<L.length:=by omega
 obtain⟨b',o',c',e,_,h1,h2⟩:=h.2 k hkl;cases e;rcases hk with rfl|rfl
 ·rw[h1]
  have:=DJ (k:=0) hkl (by omega);rw[Nat.add_zero,hu]at this;exact this.symm
 ·rw[h2]
  have:=DJ (k:=1) hkl (by omega);rw[hu]at this;exact this.symm
theorem Sw(L:List It):∀u∈L.flatMap aT,u.oneCell'=true:=fun u hu=>by
 simp only[aT,List.mem_flatMap,List.mem_cons,List.not_mem_nil,or_false]at hu;obtain⟨i,_,rfl|rfl⟩:=hu<;>rfl
theorem abf{w:World}{lim:Nat}{bv:Value}{l:List It}(h:iI w lim bv l)(hlim:lim<=w.heap.size)(h0:0<l.length)(hl:l.length<=1000):
 Calls Tryz.prog 133 #[bv] w fun e w'=> ∃g cap,e= .returned (.slice (some ⟨g,0,none⟩) l.length cap)/\w'.ownsRow w.heap.size 138 2 (.slice (some ⟨g,0,none⟩) l.length cap) l.length (l.flatMap aT)/\Below w.heap.size w w':=by
 obtain⟨lb,lo,lc,hbv,_⟩:=h.2 0 h0;subst hbv;have Sz:=h.below ((Below.refl _ w).alloc hlim (.cells #[] 138));have DW:=World.ownsRow_lit (base:=w.heap.size) (e:=138) (size:=2) w #[] 0 (Nat.le_refl _) (by unfold maxLen;omega) rfl;obtain⟨i0,hi0,hz0,hz1,hz2⟩:=info_parts Tryz.infoIt;have n1:0+l.length<=maxLen:=by unfold maxLen;omega
 have n2:(0+l.length)*16<=140737488355328:=by omega
 have hnw:=Sv Sz;have q22:∀(w:World) (a:Option Addr) (n c n' c':Nat),(binOp .eql 139 (.slice a n c) (.slice none n' c')).run Tryz.prog w= .ok (.bool a.isNone) w:=fun w a n c n' c'=>Lib.run_eql_slice_nil w _ _ a n c n' c' Tryz.underlying139;clear h Sz
 go_enter Tryz.func133,Tryz.ntmps133
 go_wp2_with
  (at_builtin
   (refine wpList_append_lies _ rfl _ _ _ rfl w.heap.size 138 i0 _ 2 16 Tryz.underlying139 hi0 hz0 hz1 hz2 rfl (by omega) (.slice (some ⟨w.heap.size,0,none⟩) 0 0) 0 [] rfl DW ⟨lb,lo,none⟩ l.length lc (l.flatMap aT) rfl (DK l) hnw (Sw l) h0 n1 n2 (by simp) (w.heap.size+1) (by simp) ?_)
   intro g1 vI w1 hown1 hgrow1 GL hlt1)
 go_ret;rw[Nat.zero_add]at*;refine⟨g1,vI,rfl,by simpa using hown1,((Below.refl _ _).alloc (Nat.le_refl _) _).grown hgrow1 (by simp) (fun k hk=>by simp only[Value.ownBlock,Option.some.injEq]at hk;omega)⟩
structure kQ(R:List Ru)(l O:List It)(dn:List Bool)(i:Nat):Prop where
 pre:∃E,O=l++E/\∀x∈E,∃q,q<R.length/\x=(q,0)
 qA:O.Nodup
 snd:∀x∈O,Cl R (· ∈l) x
 cls:∀j,j<i->j<O.length->∀n:Nat,(aH R (O.getD j (0,0)).1)[(O.getD j (0,0)).2]?=some (false,(n:Int))->dn.getD n false=true
 yQ:∀n:Nat,dn.getD n false=true->∀q,q<R.length->(R.getD q (0,[])).1=(n:Int)->(q,0)∈O
 new:∀q,q<R.length->(q,0)∈O->∃n:Nat,(R.getD q (0,[])).1=n/\dn.getD n false=true
section
variable{R:List Ru}{l O:List It}{dn:List Bool}{i:Nat}
theorem abg{N:Nat}(hl:l.Nodup)(h0:∀x∈l,x.2=0->x.1=R.length):kQ R l l (List.replicate N false) 0:=by
 refine⟨⟨[],by simp,fun x hx=>by cases hx⟩,hl,fun x hx=> .base hx,fun j hj=>absurd hj (Nat.not_lt_zero _),fun n hn=> ?_,fun q hq hm=> ?_⟩
 ·exfalso
  rw[List.getD,List.getElem?_replicate]at hn;split at hn<;>simp at hn
 ·have:=h0 _ hm rfl
  simp only at this;omega
theorem kQ.len(h:kQ R l O dn i):O.length<=l.length+R.length:=by
 obtain⟨E,rfl,hE⟩:=h.pre;have hn:E.Nodup:=(List.nodup_append.1 h.qA).2.1
 have:=QN (B:=(List.range R.length).map fun q=>((q,0):It)) hn fun x hx=>by
  obtain⟨q,hq,rfl⟩:=hE x hx;exact List.mem_map.2 ⟨q,List.mem_range.2 hq,rfl⟩
 simp only[List.length_map,List.length_range]at this;simp only[List.length_append];omega
theorem kQ.skip(h:kQ R l O dn i)(hs:∀n:Nat,(aH R (O.getD i (0,0)).1)[(O.getD i (0,0)).2]?=some (false,(n:Int))->dn.getD n false=true):kQ R l O dn (i+1):=
 ⟨h.pre,h.qA,h.snd,fun j hj hjl n hn=>by
   rcases Nat.lt_succ_iff_lt_or_eq.1 hj with hj|rfl
   ·exact h.cls j hj hjl n hn
   ·exact hs n hn,h.yQ,h.new⟩
theorem DX{m:Int}{k:Nat}{x:It}:x∈dF R m k↔∃q,q<k/\(R.getD q (0,[])).1=m/\x=(q,0):=by
 unfold dF;rw[List.mem_map];constructor
 ·rintro ⟨q,hq,rfl⟩
  rw[List.mem_filter,List.mem_range]at hq;exact⟨q,hq.1,by simpa using hq.2,rfl⟩
 ·rintro ⟨q,h1,h2,rfl⟩
  exact⟨q,List.mem_filter.2 ⟨List.mem_range.2 h1,by simpa using h2⟩,rfl⟩
theorem abh(m:Int)(k:Nat):(dF R m k).Nodup:=by
 unfold dF;have h1:((List.range k).filter fun n=>decide ((R.getD n (0,[])).1=m)).Nodup:=List.nodup_range.sublist List.filter_sublist;generalize ((List.range k).filter fun n=>decide ((R.getD n (0,[])).1=m))=A at h1
 induction A with
 |nil=>simp
 |cons a A ih=>
  rw[List.nodup_cons]at h1;rw[List.map_cons,List.nodup_cons];refine⟨fun hm=> ?_,ih h1.2⟩;obtain⟨b,hb,e⟩:=List.mem_map.1 hm;simp only[Prod.mk.injEq,and_true]at e;exact h1.1 (e▸hb)
theorem GN{L:List Bool}{n m:Nat}(hn:n<L.length):(L.set n true).getD m false=if m=n then true else L.getD m false:=by
 by_cases h:m=n
 ·subst h;simp[List.getD,hn]
 ·simp[List.getD,List.getElem?_set_ne (fun e=>h e.symm),h]
theorem kQ.add(h:kQ R l O dn i)(hi:i<O.length){n:Nat}(hs:(aH R (O.getD i (0,0)).1)[(O.getD i (0,0)).2]?=some (false,(n:Int)))(hn:n<dn.length)(hd:dn.getD n false=false):kQ R l (O++dF R n R.length) (dn.set n true) (i+1):=by
 have get:∀j,j<O.length->(O++dF R n R.length).getD j (0,0)=O.getD j (0,0):=fun j hj=>by simp[List.getD,List.getElem?_append_left hj]
 have hO:O.getD i (0,0)∈O:=by simp[List.getD,hi]
 have up:∀m,dn.getD m false=true->(dn.set n true).getD m false=true:=fun m hm=>by rw[GN hn];split<;>simp_all
 have hnew:∀x∈dF R n R.length,x∉O:=fun x hx hxO=>by
  obtain⟨q,hq,hL,rfl⟩:=DX.1 hx;obtain⟨m,h1,h2⟩:=h.new q hq hxO;rw[hL]at h1;have:m=n:=by omega
  rw[this,hd]at h2;cases h2
 refine⟨?_,?_,fun x hx=> ?_,fun j hj hjl m hm=> ?_,fun m hm q hq hL=> ?_,fun q hq hx=> ?_⟩
 ·obtain⟨E,hE,hE2⟩:=h.pre
  refine⟨E++dF R n R.length,by rw[hE,List.append_assoc],fun x hx=> ?_⟩;rcases List.mem_append.1 hx with hx|hx
  ·exact hE2 x hx
  ·obtain⟨q,hq,_,rfl⟩:=DX.1 hx
   exact⟨q,hq,rfl⟩
 ·rw[List.nodup_append]
  exact⟨h.qA,abh _ _,fun a ha b hb e=>hnew b hb (e▸ha)⟩
 ·rcases List.mem_append.1 hx with hx|hx
  ·exact h.snd x hx
  ·obtain⟨q,hq,hL,rfl⟩:=DX.1 hx
   exact .step (h.snd _ hO) hs hq hL
 ·rw[get j (by omega)]at hm
  rcases Nat.lt_succ_iff_lt_or_eq.1 hj with hj|rfl
  ·exact up m (h.cls j hj (by omega) m hm)
  ·rw[hs]at hm
   simp only[Option.some.injEq,Prod.mk.injEq,true_and]at hm;have:m=n:=by omega
   subst this;rw[GN hn,if_pos rfl]
 ·rw[GN hn]at hm
  split at hm
  ·rename_i e
   subst e;exact List.mem_append_right _ (DX.2 ⟨q,hq,hL,rfl⟩)
  ·exact List.mem_append_left _ (h.yQ m hm q hq hL)
 ·rcases List.mem_append.1 hx with hx|hx
  ·obtain⟨m,h1,h2⟩:=h.new q hq hx
   exact⟨m,h1,up m h2⟩
  ·obtain⟨q',hq',hL,e⟩:=DX.1 hx
   cases e;exact⟨n,hL,by rw[GN hn,if_pos rfl]⟩
theorem kQ.all(h:kQ R l O dn i)(hi:O.length<=i)(hsy:∀r,r<=R.length->∀s∈aH R r,s.1=false->0<=s.2)(hv:∀x∈l,x.1<=R.length):∀x,x∈O↔Cl R (· ∈l) x:=fun x=>by
 refine⟨h.snd x,fun hc=> ?_⟩
 have hR:∀x,Cl R (· ∈l) x->x.1<=R.length:=fun x hx=>by
  induction hx with
  |base hb=>exact hv _ hb
  |step _ _ h2 _ _=>exact Nat.le_of_lt h2
 induction hc with
 |base hb=>
  obtain⟨E,rfl,_⟩:=h.pre;exact List.mem_append_left _ hb
 |step hc h1 h2 h3 ih=>
  rename_i r d n m;obtain⟨j,hj,he⟩:=List.getElem_of_mem ih;have e:O.getD j (0,0)=O[j]:=by simp[List.getD,hj]
  have hm:0<=m:=hsy r (hR _ hc) (false,m) (List.mem_of_getElem? h1) rfl;obtain⟨k,rfl⟩:∃k:Nat,m=k:=⟨m.toNat,by omega⟩;exact h.yQ k (h.cls j (by omega) hj k (by rw[e,he];exact h1)) n h2 h3
end
def P2(ov:Value)(O:List It)(dg N:Nat)(dn:List Bool):Bool->Option Row
 |false=>some ⟨ov,138,2,O.length,O.flatMap aT⟩
 |true=>some ⟨.slice (some ⟨dg,0,none⟩) N N,4,1,N,dn.map Value.bool⟩
theorem abj{ov aA:Value}{O O':List It}{dg N:Nat}{dn:List Bool}:upd (P2 ov O dg N dn) false ⟨aA,138,2,O'.length,O'.flatMap aT⟩=P2 aA O' dg N dn:=by
 funext i
 cases i<;>simp[upd,P2]
theorem SA{ov:Value}{O:List It}{dg N n:Nat}{dn:List Bool}:upd (P2 ov O dg N dn) true ⟨.slice (some ⟨dg,0,none⟩) N N,4,1,N,(dn.map Value.bool).set n (.bool true)⟩=P2 ov O dg N (dn.set n true):=by
 funext i
 cases i<;>simp[upd,P2,List.map_set]
theorem abk{w:World}{lim ab T N:Nat}{rv bv:Value}{R:List Ru}{l:List It}(hA:iC w lim ab T N rv R)(hI:iI w w.heap.size bv l)(hnd:l.Nodup)(h0:0<l.length)(hl:l.length<=500)(hok:∀x∈l,mH R x)(hz:∀x∈l,x.2=0->x.1=R.length)(hR:R.length<=40)
 (hsy:∀r,r<=R.length->∀s∈aH R r,s.1=false->0<=s.2/\s.2<(N:Int)) (hN:N<=12):
 Calls Tryz.prog 100 #[.pointer (some ⟨ab,0,none⟩),bv] w fun e w'=> ∃(g cap:Nat) (C:List It),e= .returned (.slice (some ⟨g,0,none⟩) C.length cap)/\w'.ownsRow w.heap.size 138 2 (.slice (some ⟨g,0,none⟩) C.length cap) C.length (C.flatMap aT)/\C.Pairwise iq/\(∀i,i∈C↔Cl R (· ∈l) i)/\C.length<=600/\Below w.heap.size w w':=by
 have cl:=abf hI (Nat.le_refl _) h0 (by omega);have HA:Hid (iC w lim ab T N rv R):=hA;have om:Hid (∀x∈l,mH R x):=hok;have jH:Hid (∀r,r<=R.length->∀s∈aH R r,s.1=false->0<=s.2/\s.2<(N:Int)):=hsy;have jL:Hid (kQ R l l (List.replicate N false) 0):=abg hnd hz;clear hA hI hnd hok hz hsy
 go_enter Tryz.func100,Tryz.ntmps100
 have mkB:=Au N (by omega)
 go_wp2_with
  (go_at_call 133;refine cl.mono ?_;rintro e w1 ⟨g1,vI,rfl,SB,hB1⟩
   have a1:=(HA.out.later hB1).n;have HB1:Hid (Below w.heap.size w w1):=hB1;have HR1:Hid (w1.ownsRow w.heap.size 138 2 (.slice (some ⟨g1,0,none⟩) l.length vI) l.length (l.flatMap aT)):=SB
   clear hB1 SB cl)
 have HB2:Hid (Below w.heap.size w (w1.alloc (.cells (madeCells #[.bool false] N) 4))):=HB1.out.alloc HB1.out.size _
 have AV:Hid (ah (w1.alloc (.cells (madeCells #[.bool false] N) 4)) w.heap.size (P2 (.slice (some ⟨g1,0,none⟩) l.length vI) l w1.heap.size N (List.replicate N false))):=by
  have hb:=(KH w1 (N:=N) (by unfold maxLen;omega)).mono HB1.out.size;have hi:=HR1.out.alloc (.cells (madeCells #[.bool false] N) 4);refine⟨fun i r hr=> ?_,fun i j a b hij ha hb' g h1 h2=> ?_⟩
  ·cases i<;>simp only[P2,Option.some.injEq]at hr<;>subst hr
   ·exact hi
   ·exact hb
  ·have hlt:=(HR1.out.lt g1 rfl).2
   cases i<;>cases j<;>simp only[P2,Option.some.injEq]at ha hb'<;>subst ha<;>subst hb'<;>simp only[Value.ownBlock,Option.some.injEq]at h1 h2
   ·exact hij rfl
   ·omega
   ·omega
   ·exact hij rfl
 generalize w1.alloc (.cells (madeCells #[.bool false] N) 4)=W2 at HB2 AV⊢;obtain⟨dg,hdg⟩:∃dg,w1.heap.size=dg:=⟨_,rfl⟩;rw[hdg]at AV⊢;clear hdg mkB a1 HB1 HR1
 go_loopw [5,7] (fun s5 s7 wr=> ∃(i g cap:Nat) (O:List It) (dn:List Bool),s5= .slice (some ⟨g,0,none⟩) O.length cap/\s7= .int .i64 i/\i<=O.length/\Below w.heap.size w wr/\ah wr w.heap.size (P2 (.slice (some ⟨g,0,none⟩) O.length cap) O dg N dn)/\kQ R l O dn i) (fun _ s _=>l.length+R.length+1-(intOf s).toNat)
 case atStart=>exact⟨0,g1,vI,l,_,rfl,rfl,Nat.zero_le _,HB2.out,AV.out,jL.out⟩
 case round=>
  clear HB2 AV jL;obtain⟨i,g,cap,O,dn,rfl,rfl,hi,hB,hO,hC⟩:=hrel;have HB:Hid (Below w.heap.size w wr):=hB;have HO:Hid (ah wr w.heap.size (P2 (.slice (some ⟨g,0,none⟩) O.length cap) O dg N dn)):=hO;have HC:Hid (kQ R l O dn i):=hC;have hlen:=hC.len;have hrow:wr.ownsRow w.heap.size 138 2 (.slice (some ⟨g,0,none⟩) O.length cap) O.length (O.flatMap aT):=hO.own false _ rfl;by_cases hlt:i<O.length
  ·obtain⟨b',o',c',rE,_,q0,q1⟩:=(AA hrow rfl).2 i hlt
   cases rE;simp only[Nat.zero_add]at q0 q1;obtain⟨⟨a,b⟩,hab⟩:∃x,O.getD i (0,0)=x:=⟨_,rfl⟩;rw[hab]at q0 q1;simp only at q0 q1;have hmem:(a,b)∈O:=by rw[<-hab];simp[List.getD,hlt]
   have ok:=KC om.out (hC.snd _ hmem);have hAr:=HA.out.below hB HA.out.le HA.out.lt;have i0:(0:Int)<=(i:Int):=Int.natCast_nonneg _;have i1:(i:Int)<(O.length:Int):=by omega
   have HAB:Hid (O.getD i (0,0)=(a,b)):=hab;have HAr:Hid (iC wr lim ab T N rv R):=hAr;have hdr:wr.ownsRow w.heap.size 4 1 (.slice (some ⟨dg,0,none⟩) N N) N (dn.map Value.bool):=hO.own true _ rfl;have hdl:dn.length=N:=by have:=hdr.1;simpa using this
   cases hnx:(aH R a)[b]? with
   |none=>
    have nx:=Gp (a:=a) (b:=b) hAr ok.1 (by have:=List.getElem?_eq_none_iff.1 hnx;have h2:b<=(aH R a).length:=ok.2;omega);have HS:Hid (kQ R l O dn (i+1)):=hC.skip fun n hn=>by rw[hab]at hn;simp only at hn;rw[hnx]at hn;cases hn
    clear hB hO hC hab hmem ok hAr hdr hdl hrow
    go_wp2_with
     (go_at_call 104;refine nx.mono ?_;rintro e w2 ⟨rfl,hB2⟩)
    go_roundw
    case rel=>
     have hb:=hB2.alloc hB2.size (.cells #[.bool false,.int .i64 0] 116);exact⟨i+1,g,cap,O,dn,rfl,by go_num,by omega,HB.out.trans (hb.mono HB.out.size),HO.out.below hb (Nat.le_refl _),HS.out⟩
    case measure=>simp[intOf];omega
   |some s=>
    have nx:=Gn hAr ok.1 hnx;have hss:=jH.out a ok.1 s (List.mem_of_getElem? hnx);obtain⟨sb,sv⟩:=s;simp only at hss nx;cases sb with
    |true=>
     have HS:Hid (kQ R l O dn (i+1)):=hC.skip fun n hn=>by rw[hab]at hn;simp only at hn;rw[hnx]at hn;cases hn
     clear hB hO hC hab hmem ok hAr hdr hdl hrow hss
     go_wp2_with
      (go_at_call 104;refine nx.mono ?_;rintro e w2 ⟨rfl,hB2⟩)
     go_roundw
     case rel=>
      have hb:=hB2.alloc hB2.size (.cells #[.bool true,.int .i64 sv] 116);exact⟨i+1,g,cap,O,dn,rfl,by go_num,by omega,HB.out.trans (hb.mono HB.out.size),HO.out.below hb (Nat.le_refl _),HS.out⟩
     case measure=>simp[intOf];omega
    |false=>
     obtain⟨n0,n1⟩:=hss rfl;obtain⟨n,rfl⟩:∃n:Nat,sv=n:=⟨sv.toNat,by omega⟩;have RY:n<N:=by omega
     have n2:(n:Int)<(N:Int):=by omega
     have DY:wr.cell? ⟨dg,n,none⟩=some (.bool (dn.getD n false)):=by
      rw[hdr.cellAt n (by omega)];simp[List.getD,show n<dn.length by omega]
     have Lc:wr.frozen? ⟨dg,n,none⟩=false:=hdr.frozenAt n;have xG:dg<wr.heap.size:=(hdr.lt dg rfl).2;have afN:w.heap.size<=dg:=(hdr.lt dg rfl).1;cases hd:dn.getD n false with
     |true=>
      rw[hd]at DY
      have HS:Hid (kQ R l O dn (i+1)):=hC.skip fun m hm=>by
       rw[hab]at hm;simp only at hm;rw[hnx]at hm;simp only[Option.some.injEq,Prod.mk.injEq,true_and]at hm;have:m=n:=by omega
       rw[this];exact hd
      clear hB hO hC hab hmem ok hAr hdr hdl hrow hss hd Lc
      go_wp2_with
       (go_at_call 104;refine nx.mono ?_;rintro e w2 ⟨rfl,hB2⟩
        have SC:=(hB2.cell (p:=⟨dg,n,none⟩) xG).trans DY;have SE:dg<w2.heap.size:=Nat.lt_of_lt_of_le xG hB2.size;have HB2:Hid (Below wr.heap.size wr w2):=hB2
        clear hB2)
      go_roundw
      case rel=>
       have hb:=HB2.out.alloc HB2.out.size (.cells #[.bool false,.int .i64 n] 116);exact⟨i+1,g,cap,O,dn,rfl,by go_num,by omega,HB.out.trans (hb.mono HB.out.size),HO.out.below hb (Nat.le_refl _),HS.out⟩
      case measure=>simp[intOf];omega
     |false=>
      rw[hd]at DY;have HS:Hid (kQ R l (O++dF R n R.length) (dn.set n true) (i+1)):=hC.add hlt (by rw[hab];exact hnx) (by omega) hd;obtain⟨RI,tN⟩:∃RI,dF R n R.length=RI:=⟨_,rfl⟩;have aaZ:RI.length<=40:=by rw[<-tN];exact Nat.le_trans (KU _ _ _) hR
      have GH:Hid (dF R n R.length=RI):=tN;rw[tN]at HS
      have hOg:ah (wr.setCell ⟨dg,n,none⟩ (.bool true)) w.heap.size (P2 (.slice (some ⟨g,0,none⟩) O.length cap) O dg N (dn.set n true)):=by
       have:=hO.store (i:=true) (g:=dg) (n:=N) (cap:=N) (e:=4) (size:=1) (xs:=dn.map Value.bool) rfl n (.bool true);rw[SA]at this;exact this
      have SF:Hid (∀w2,Below wr.heap.size wr w2->ah ((w2.setCell ⟨dg,n,none⟩ (.bool true)).alloc (.cells #[.bool false,.int .i64 n] 116)) w.heap.size (P2 (.slice (some ⟨g,0,none⟩) O.length cap) O dg N (dn.set n true))/\
       Below w.heap.size w ((w2.setCell ⟨dg,n,none⟩ (.bool true)).alloc (.cells #[.bool false,.int .i64 n] 116))):=fun w2 hB2=>by
       have h1:=HO.out.below hB2 (Nat.le_refl _);have h2:=h1.store (i:=true) (g:=dg) (n:=N) (cap:=N) (e:=4) (size:=1) (xs:=dn.map Value.bool) rfl n (.bool true);rw[SA]at h2;have h3:Below w.heap.size w w2:=HB.out.trans (hB2.mono HB.out.size);exact⟨h2.alloc _,(h3.setCell (by simp only;omega) _).alloc (by simpa using h3.size) _⟩
      obtain⟨rC,hi0,hz0,hz1,hz2⟩:=info_parts Tryz.infoIt;have m1:O.length+RI.length<=maxLen:=by unfold maxLen;omega
      have m2:(O.length+RI.length)*16<=140737488355328:=by omega
      clear hB hO hC hab hmem ok hAr hdr hdl hrow hss hd tN hOg;by_cases hnil:RI=[]
      ·subst hnil
       simp only[List.append_nil]at HS
       go_wp2_with
        (first
         |(go_at_call 104;refine nx.mono ?_;rintro e w2 ⟨rfl,hB2⟩
           have SC:=(hB2.cell (p:=⟨dg,n,none⟩) xG).trans DY;have df2:=(hB2.frozen (p:=⟨dg,n,none⟩) xG).trans Lc;have SE:dg<w2.heap.size:=Nat.lt_of_lt_of_le xG hB2.size;obtain⟨hO4,hB4⟩:=SF.out w2 hB2;have yZ:Hid (ah ((w2.setCell ⟨dg,n,none⟩ (.bool true)).alloc (.cells #[.bool false,.int .i64 n] 116)) w.heap.size (P2 (.slice (some ⟨g,0,none⟩) O.length cap) O dg N (dn.set n true))):=hO4;have gJ:Hid (Below w.heap.size w ((w2.setCell ⟨dg,n,none⟩ (.bool true)).alloc (.cells #[.bool false,.int .i64 n] 116))):=hB4;have rD:=KV (m:=(n:Int)) (HA.out.below hB4 HA.out.le HA.out.lt) hR;rw[GH.out]at rD
           clear hB2 hO4 hB4 nx)
         |(go_at_call 107;refine rD.mono ?_;rintro e w5 ⟨rv5,rfl,DZ,ak,SG⟩
           obtain rfl:=SG (by trivial);have dh:w5.ownsRow w.heap.size 138 2 (.slice (some ⟨g,0,none⟩) O.length cap) O.length (O.flatMap aT):=(yZ.out.below ak (Nat.le_refl _)).own false _ rfl;have fA:Hid (Below w.heap.size w w5/\ah w5 w.heap.size (P2 (.slice (some ⟨g,0,none⟩) O.length cap) O dg N (dn.set n true))):=⟨gJ.out.trans (ak.mono gJ.out.size),yZ.out.below ak (Nat.le_refl _)⟩
           clear DZ ak SG rD)
         |(at_builtin
           (refine wpList_append_own_none rfl _ _ _ rfl w.heap.size 138 rC 2 Tryz.underlying139 hi0 (.slice (some ⟨g,0,none⟩) O.length cap) O.length (O.flatMap aT) rfl dh rfl ?_)))
       go_roundw
       case rel=>exact⟨i+1,g,cap,O,dn.set n true,rfl,by go_num,by omega,fA.out.1,fA.out.2,HS.out⟩
       case measure=>simp[intOf];omega
      ·have hpos:0<RI.length:=List.length_pos_iff.2 hnil
       clear hnil
       go_wp2_with
        (first
         |(go_at_call 104;refine nx.mono ?_;rintro e w2 ⟨rfl,hB2⟩
           have SC:=(hB2.cell (p:=⟨dg,n,none⟩) xG).trans DY;have df2:=(hB2.frozen (p:=⟨dg,n,none⟩) xG).trans Lc;have SE:dg<w2.heap.size:=Nat.lt_of_lt_of_le xG hB2.size;obtain⟨hO4,hB4⟩:=SF.out w2 hB2;have yZ:Hid (ah ((w2.setCell ⟨dg,n,none⟩ (.bool true)).alloc (.cells #[.bool false,.int .i64 n] 116)) w.heap.size (P2 (.slice (some ⟨g,0,none⟩) O.length cap) O dg N (dn.set n true))):=hO4;have gJ:Hid (Below w.heap.size w ((w2.setCell ⟨dg,n,none⟩ (.bool true)).alloc (.cells #[.bool false,.int .i64 n] 116))):=hB4;have rD:=KV (m:=(n:Int)) (HA.out.below hB4 HA.out.le HA.out.lt) hR;rw[GH.out]at rD
           clear hB2 hO4 hB4 nx)
         |(go_at_call 107;refine rD.mono ?_;rintro e w5 ⟨rv5,rfl,DZ,ak,-⟩
           obtain⟨rg,abl,abm,_,_⟩:=DZ.form hpos;subst abm;have dh:w5.ownsRow w.heap.size 138 2 (.slice (some ⟨g,0,none⟩) O.length cap) O.length (O.flatMap aT):=(yZ.out.below ak (Nat.le_refl _)).own false _ rfl;have iJ:=Sv (AA DZ rfl);have fA:Hid (Below w.heap.size w w5/\ah w5 w.heap.size (P2 (.slice (some ⟨g,0,none⟩) O.length cap) O dg N (dn.set n true))):=⟨gJ.out.trans (ak.mono gJ.out.size),yZ.out.below ak (Nat.le_refl _)⟩;have hsz5:w.heap.size<=w5.heap.size:=fA.out.1.size
           clear DZ ak rD)
         |(at_builtin
           (refine wpList_append_lies _ rfl _ _ _ rfl w.heap.size 138 rC _ 2 16 Tryz.underlying139 hi0 hz0 hz1 hz2 rfl (by omega) (.slice (some ⟨g,0,none⟩) O.length cap) O.length (O.flatMap aT) rfl dh ⟨rg,0,none⟩ RI.length abl (RI.flatMap aT) rfl (DK RI) iJ (Sw RI) hpos m1 m2 hsz5 w5.heap.size rfl ?_)
           intro g6 cap6 w6 hown6 dO lI rq))
       go_roundw
       case rel=>
        have aQ:Below w.heap.size w w6:=fA.out.1.grown dO fA.out.1.size (fun j hj=>(dh.lt j hj).1);have h6:=fA.out.2.turn (i:=false) (r':=⟨.slice (some ⟨g6,0,none⟩) (O.length+RI.length) cap6,138,2,(O++RI).length,(O++RI).flatMap aT⟩) rfl dO (by rw[List.length_append,List.flatMap_append];exact hown6) (fun g' hg'=>by simp only[Value.ownBlock,Option.some.injEq]at hg';subst hg';exact lI);rw[abj]at h6;refine⟨i+1,g6,cap6,O++RI,dn.set n true,by rw[List.length_append],by go_num,by rw[List.length_append];omega,aQ,by rw[List.length_append];exact h6,HS.out⟩
       case measure=>simp[intOf];omega
  ·obtain rfl:i=O.length:=by omega
   have Du:=abe hrow (by omega) hC.qA;have D5:Hid (∀x,x∈O↔Cl R (· ∈l) x):=hC.all (Nat.le_refl _) (fun r hr s hs he=>(jH.out r hr s hs he).1) (fun x hx=>(om.out x hx).1);clear hB hO hC hrow
   go_wp2_with
    (go_at_call 134;refine Du.mono ?_;rintro e w2 ⟨rfl,C,AX,hCs,pF,SH,hCg⟩)
   go_ret;rw[<-AX]at SH;refine⟨g,cap,C,by rw[AX];rfl,SH,hCs,fun x=>(pF x).trans (D5.out x),by omega,?_⟩
   exact HB.out.grown hCg HB.out.size (fun j hj=>by
    simp only[Option.some.injEq]at hj;subst hj;have:=(HO.out.own false _ rfl).lt g rfl
    exact this.1)
theorem abn{w:World}{av bv:Value}{A B:List It}{la lb:Nat}(hA:iI w la av A)(hB:iI w lb bv B)(hl:A.length<=1000/\B.length<=1000):
 Calls Tryz.prog 102 #[av,bv] w fun e w'=>e= .returned (.bool (decide (A=B)))/\Below w.heap.size w w':=by
 obtain⟨aa,ac,Ld⟩:=hA.1;obtain⟨ba,bc,hbv⟩:=hB.1;subst Ld;subst hbv;by_cases hne:A.length=B.length
 ·have e1:((A.length:Int) !=(B.length:Int))=false:=by simp;omega
  have HA:Hid (iI w la (.slice aa A.length ac) A):=hA;have HB:Hid (iI w lb (.slice ba B.length bc) B):=hB;have HL:Hid (A.length=B.length):=hne;clear hA hB hne
  go_enter Tryz.func102,Tryz.ntmps102
  go_wp2_with fail
  go_loopw [13] (fun s wr=> ∃k m:Nat,s= .int .i64 k/\k<=A.length/\wr=w.drewN m/\∀j,j<k->A.getD j (0,0)=B.getD j (0,0)) (fun s _=>A.length-(intOf s).toNat)
  case atStart=>exact⟨0,0,rfl,Nat.zero_le _,rfl,fun j hj=>absurd hj (Nat.not_lt_zero _)⟩
  case round=>
   obtain⟨k,m,rfl,hk,rfl,hno⟩:=hrel;have D6:Hid (∀j,j<k->A.getD j (0,0)=B.getD j (0,0)):=hno;clear hno;by_cases hlt:k<A.length
   ·obtain⟨b,o,c,hv,_,k3,k4⟩:=HA.out.2 k hlt
    cases hv;obtain⟨b',o',c',hv',_,k5,k6⟩:=HB.out.2 k (by rw[<-HL.out];exact hlt);cases hv';rw[<-Nat.add_assoc]at k4 k6;obtain⟨⟨p,q⟩,hpq⟩:∃z,A.getD k (0,0)=z:=⟨_,rfl⟩;obtain⟨⟨x,y⟩,hxy⟩:∃z,B.getD k (0,0)=z:=⟨_,rfl⟩;rw[hpq]at k3 k4;rw[hxy]at k5 k6;simp only at k3 k4 k5 k6;have HPQ:Hid (A.getD k (0,0)=(p,q)/\B.getD k (0,0)=(x,y)):=⟨hpq,hxy⟩;have i0:(0:Int)<=(k:Int):=Int.natCast_nonneg _;have i1:(k:Int)<(A.length:Int):=by omega
    have i2:(k:Int)<(B.length:Int):=by rw[<-HL.out];omega
    clear hpq hxy;by_cases he:p=x/\q=y
    ·obtain⟨rfl,rfl⟩:=he
     have abo:Hid (∀j,j<k+1->A.getD j (0,0)=B.getD j (0,0)):=fun j hj=>by
      rcases Nat.lt_succ_iff_lt_or_eq.1 hj with hj|rfl
      ·exact D6.out j hj
      ·rw[HPQ.out.1,HPQ.out.2]
     go_wp2_with fail
     go_big_quiet (fail)
     go_wp2_with fail
     go_roundw
     case rel=>exact⟨k+1,_,by go_num,by omega,rfl,abo.out⟩
     case measure=>simp[intOf];omega
    ·have HD:Hid (decide (A=B)=false):=decide_eq_false fun e=>by
      have h1:=HPQ.out.1;rw[e,HPQ.out.2]at h1;cases h1;exact he ⟨rfl,rfl⟩
     by_cases hp:p=x
     ·subst hp
      have hq:¬q=y:=fun e=>he ⟨rfl,e⟩;have e1:((q:Int)==(y:Int))=false:=by simp;omega
      have e2:((p:Int)==(p:Int))=true:=by simp
      clear he
      go_wp2_with fail
      go_big_quiet (fail)
      go_wp2_with fail
      go_ret;exact⟨by rw[HD.out];rfl,below_drewN (below_drewN (Below.refl _ _) _) _⟩
     ·have e1:((p:Int)==(x:Int))=false:=by simp;omega
      clear he
      go_wp2_with fail
      go_big_quiet (fail)
      go_wp2_with fail
      go_ret;exact⟨by rw[HD.out];rfl,below_drewN (below_drewN (Below.refl _ _) _) _⟩
   ·have HD:Hid (decide (A=B)=true):=decide_eq_true (by
     refine List.ext_getElem HL.out fun j h1 h2=> ?_;have:=D6.out j (by omega)
     rwa [GI h1,GI h2]at this)
    go_wp2_with fail
    go_ret;exact⟨by rw[HD.out];rfl,below_drewN (Below.refl _ _) _⟩
 ·have e1:((A.length:Int) !=(B.length:Int))=true:=by simp;omega
  have HD:Hid (decide (A=B)=false):=decide_eq_false fun e=>hne (by rw[e]);clear hA hB hne
  go_enter Tryz.func102,Tryz.ntmps102
  go_wp2_with fail
  go_ret;exact⟨by rw[HD.out];rfl,Below.refl _ _⟩
theorem abp{w:World}{ib:Nat}{av cv:Value}{A C:List It}{la lc:Nat}(hA:iI w la av A)(hC:iI w lc cv C)(hi:w.cell? ⟨ib,0,none⟩=some cv)(hl:A.length<=1000/\C.length<=1000):
 Calls Tryz.prog 101 #[av,.pointer (some ⟨ib,0,none⟩)] w fun e w'=>e= .returned (.bool (decide (A=C)))/\Below w.heap.size w w':=by
 have eq:=abn hA hC hl;obtain⟨ca,cc,hcv⟩:=hC.1;obtain⟨aa,ac,Ld⟩:=hA.1;subst hcv;subst Ld;clear hA hC
 go_enter Tryz.func101,Tryz.ntmps101
 go_wp2_with (go_at_call 102;refine eq.mono ?_;rintro e w1 ⟨rfl,hB⟩)
 go_ret;exact⟨rfl,hB⟩
structure AY(w:World)(sv:Value)(IV:Nat->Value)(OL:List (List It)):Prop where
 slice:∃a c,sv= .slice a OL.length c
 cell:∀k,k<OL.length->∃g c,sv= .slice (some ⟨g,0,none⟩) OL.length c/\w.cell? ⟨g,k,none⟩=some (IV k)
 items:∀k,k<OL.length->iI w w.heap.size (IV k) (OL.getD k [])
theorem AY.below{w w':World}{sv:Value}{IV:Nat->Value}{OL:List (List It)}(h:AY w sv IV OL)(hb:Below w.heap.size w w'):AY w' sv IV OL:=
 ⟨h.slice,fun k hk=>let ⟨g,c,h1,h2⟩:=h.cell k hk;⟨g,c,h1,(hb.cell (World.block_lt_of_cell? _ _ h2)).trans h2⟩,fun k hk=>((h.items k hk).below hb).mono hb.size⟩
theorem aj.lists{w0 w:World}{d:eD}{v:bS}{G:Wy->Option Value}{ng:Nat}{st:LS}(h:aj w0 w d v G ng st):AY w v.sv v.IV v.OL:=
 ⟨h.states,fun _ hk=>let ⟨g,c,h1,_,h2⟩:=h.state hk;⟨g,c,h1,h2⟩,fun _ hk=>h.items hk⟩
theorem abq{w:World}{sv cv:Value}{IV:Nat->Value}{OL:List (List It)}{C:List It}{ib:Nat}(hL:AY w sv IV OL)(hC:iI w w.heap.size cv C)(hi:w.cell? ⟨ib,0,none⟩=some cv)(hl:OL.length<=1000)(hO:∀k,k<OL.length->(OL.getD k []).length<=1000)(AX:C.length<=1000):
 Calls Tryz.prog 103 #[sv,.func (.func 101) #[] #[.pointer (some ⟨ib,0,none⟩)]] w fun e w'=>(∃z:Int,e= .returned (.int .i64 z)/\((z= -1/\∀j,j<OL.length->OL.getD j []≠C)\/∃n:Nat,z=n/\n<OL.length/\OL.getD n []=C))/\Below w.heap.size w w':=by
 obtain⟨sa,sc,hsv⟩:=hL.slice;subst hsv;have HL:Hid (AY w (.slice sa OL.length sc) IV OL):=hL;have HC:Hid (iI w w.heap.size cv C):=hC;have HO:Hid (∀k,k<OL.length->(OL.getD k []).length<=1000):=hO;have HI:Hid (w.cell? ⟨ib,0,none⟩=some cv):=hi;clear hL hC hO hi
 go_enter Tryz.func103,Tryz.ntmps103
 go_wp2_with fail
 go_loopw [8] (fun s wr=> ∃k:Nat,s= .int .i64 k/\k<=OL.length/\Below w.heap.size w wr/\∀j,j<k->OL.getD j []≠C) (fun s _=>OL.length-(intOf s).toNat)
 case atStart=>exact⟨0,rfl,Nat.zero_le _,Below.refl _ _,fun j hj=>absurd hj (Nat.not_lt_zero _)⟩
 case round=>
  obtain⟨k,rfl,hk,hB,hno⟩:=hrel;have HB:Hid (Below w.heap.size w wr):=hB;have D6:Hid (∀j,j<k->OL.getD j []≠C):=hno;by_cases hlt:k<OL.length
  ·have Le:=HL.out.below hB
   obtain⟨g,c,hv,q0⟩:=Le.cell k hlt;cases hv;have hit:=Le.items k hlt;have AZ:=abp (ib:=ib) hit (HC.out.below hB) ((hB.cell (World.block_lt_of_cell? _ _ HI.out)).trans HI.out) ⟨HO.out k hlt,AX⟩;obtain⟨ia,ic,hiv⟩:=hit.1;rw[hiv]at q0 AZ;have i0:(0:Int)<=(k:Int):=Int.natCast_nonneg _;have i1:(k:Int)<(OL.length:Int):=by omega
   obtain⟨n,hn⟩:∃n,(OL.getD k []).length=n:=⟨_,rfl⟩;rw[hn]at q0 AZ;clear hB hno Le hit hiv hn;by_cases he:OL.getD k []=C
   ·rw[decide_eq_true he]at AZ
    have HE:Hid (OL.getD k []=C):=he;clear he
    go_wp2_with (go_at_call 101;refine AZ.mono ?_;rintro e w1 ⟨rfl,hB1⟩)
    go_ret;exact⟨⟨k,rfl,.inr ⟨k,rfl,hlt,HE.out⟩⟩,HB.out.trans (hB1.mono HB.out.size)⟩
   ·rw[decide_eq_false he]at AZ
    have HE:Hid (∀j,j<k+1->OL.getD j []≠C):=fun j hj=>by
     rcases Nat.lt_succ_iff_lt_or_eq.1 hj with hj|rfl
     ·exact D6.out j hj
     ·exact he
    clear he
    go_wp2_with (go_at_call 101;refine AZ.mono ?_;rintro e w1 ⟨rfl,hB1⟩)
    go_roundw
    case rel=>exact⟨k+1,by go_num,by omega,HB.out.trans (hB1.mono HB.out.size),HE.out⟩
    case measure=>simp[intOf];omega
  ·clear hB hno
   go_wp2_with fail
   go_ret;exact⟨⟨-1,rfl,.inl ⟨rfl,fun j hj=>D6.out j (by omega)⟩⟩,HB.out⟩
structure Lg(R:List Ru)(l:List It):Prop where
 qA:l.Nodup
 pos:0<l.length
 few:l.length<=500
 ok:∀x∈l,mH R x
 zero:∀x∈l,x.2=0->x.1=R.length
theorem SI{w0 w:World}{d:eD}{v:bS}{G:Wy->Option Value}{ng:Nat}{st:LS}{R:List Ru}{Nu:List Bool}{Fi:List (List Bool)}{bv:Value}{l:List It}(E:iT w0 d R Nu Fi)(h:aj w0 w d v G ng st)(hI:iI w w.heap.size bv l)(hl:Lg R l)(few:v.OL.length<=150)(hO:∀k,k<v.OL.length->(v.OL.getD k []).length<=1000):
 Calls Tryz.prog 78 #[.pointer (some ⟨d.ma,0,none⟩),bv] w fun e w'=> ∃(n:Nat) (v':bS) (C:List It),e= .returned (.int .i64 n)/\C.Pairwise iq/\(∀i,i∈C↔Cl R (· ∈l) i)/\Dw v.OL C n v'.OL/\v'.ov=v.ov/\aj w0 w' d v' G ng st/\aF d v v' w w':=by
 have SK:=abk (h.auto E) hI hl.qA hl.pos hl.few hl.ok hl.zero E.hR (fun r hr s hs he=>(E.sym r hr s hs).2 he) E.hN.2;have HM:Hid (aj w0 w d v G ng st):=h;have HO:Hid (∀k,k<v.OL.length->(v.OL.getD k []).length<=1000):=hO;have HE:Hid (iT w0 d R Nu Fi):=E;obtain⟨ba,bc,hbv⟩:=hI.1;subst hbv;clear h hI hl hO E
 go_enter Tryz.func78,Tryz.ntmps78
 go_wp2_with
  (first
   |(go_at_call 100;refine SK.mono ?_;rintro e w1 ⟨g,cap,C,rfl,hrow,hCs,pF,AX,hB1⟩
     have HC:Hid (w1.ownsRow w.heap.size 138 2 (.slice (some ⟨g,0,none⟩) C.length cap) C.length (C.flatMap aT)/\C.Pairwise iq/\(∀i,i∈C↔Cl R (· ∈l) i)/\Below w.heap.size w w1):=⟨hrow,hCs,pF,hB1⟩;have hM1:=HM.out.below hB1;have hM2:=hM1.alloc (.cells #[.slice (some ⟨g,0,none⟩) C.length cap] 139);have hX2:=hM1.box #[.slice (some ⟨g,0,none⟩) C.length cap] 139;have hi2:=AA (hrow.alloc (.cells #[.slice (some ⟨g,0,none⟩) C.length cap] 139)) rfl;have idx:=abq hM2.lists hi2 (hX2.cell (i:=0) rfl) (by omega) HO.out (by omega);have c6:=(hM2.cell (i:=6) rfl (by omega)).1;obtain⟨sa,sc,hsv⟩:=hM2.states;rw[hsv]at c6 idx;have yV:Hid (v.sv= .slice sa v.OL.length sc):=hsv;have iU:Hid (aj w0 (w1.alloc (.cells #[.slice (some ⟨g,0,none⟩) C.length cap] 139)) d v G ng st):=hM2;have jZ:Hid (bT (w1.alloc (.cells #[.slice (some ⟨g,0,none⟩) C.length cap] 139)) d v w1.heap.size #[.slice (some ⟨g,0,none⟩) C.length cap] 139):=hX2
     clear hrow hCs pF hB1 hM1 hM2 hX2 hi2 hsv SK)
   |(go_at_call 103;refine idx.mono ?_;rintro e w3 ⟨⟨z,rfl,hz⟩,hB3⟩
     have l5:Hid (aj w0 w3 d v G ng st):=iU.out.below hB3;have mZ:Hid (bT w3 d v w1.heap.size #[.slice (some ⟨g,0,none⟩) C.length cap] 139):=jZ.out.below hB3;have HB3:Hid (Below w.heap.size w w3):=(HC.out.2.2.2.alloc HC.out.2.2.2.size _).trans (hB3.mono (by have:=HC.out.2.2.2.size;simp;omega));have HC3:Hid (w3.ownsRow w.heap.size 138 2 (.slice (some ⟨g,0,none⟩) C.length cap) C.length (C.flatMap aT)):=own_below (HC.out.1.alloc _) hB3 (fun k hk=>((HC.out.1.alloc _).lt k hk).2);have HZ:Hid ((z= -1/\∀j,j<v.OL.length->v.OL.getD j []≠C)\/∃n:Nat,z=n/\n<v.OL.length/\v.OL.getD n []=C):=hz
     clear hz hB3 idx c6 iU jZ))
 ·rename_i hz0
  go_ret;rcases HZ.out with⟨e,_⟩|⟨n,e,h1,h2⟩
  ·omega
  ·exact⟨n,v,C,by rw[e];rfl,HC.out.2.1,HC.out.2.2.1,.inl ⟨h1,h2,rfl⟩,rfl,l5.out,aF.bP HB3.out⟩
 ·have hno:Hid (∀j,j<v.OL.length->v.OL.getD j []≠C):=by
   show ∀j,j<v.OL.length->v.OL.getD j []≠C;rcases HZ.out with⟨_,h⟩|⟨n,e,_⟩
   ·exact h
   ·omega
  obtain⟨sb,hsb⟩:∃sb,w1.heap.size=sb:=⟨_,rfl⟩;rw[hsb]at mZ⊢;have h4:=l5.out.alloc (.cells #[.slice (some ⟨g,0,none⟩) C.length cap] 139);have x0:=mZ.out.cell (i:=0) rfl;have e6:=(l5.out.cell (i:=6) rfl (by omega)).1;have f6:=(h4.cell (i:=6) rfl (by omega)).1;rw[yV.out]at e6 f6
  have dz:((w3.alloc (.cells #[.slice (some ⟨g,0,none⟩) C.length cap] 139)).drew).ownsRow w0.heap.size 139 1 (.slice sa v.OL.length sc) v.OL.length ((List.range v.OL.length).map v.IV):=by
   have:=h4.own.own .st _ rfl;simp only[yV.out]at this;exact this
  have hma:d.ma<w3.heap.size:=l5.out.Az;have hne:some d.ma≠(Value.slice sa v.OL.length sc).ownBlock:=fun e1=>h4.own.apart .ma .st _ _ (by simp) rfl rfl d.ma rfl (by show v.sv.ownBlock=_;rw[yV.out];exact e1.symm);have SL:=(h4.cell (i:=6) rfl (by omega)).2;have hn1:v.OL.length+1<=maxLen:=by unfold maxLen;omega
  have hn2:(v.OL.length+1)*24<=140737488355328:=by omega
  have hB3:w0.heap.size<=w3.heap.size:=l5.out.le;have gJ:Hid (Below w.heap.size w (w3.alloc (.cells #[.slice (some ⟨g,0,none⟩) C.length cap] 139)).drew):=(HB3.out.alloc HB3.out.size _).drew;have HC4:Hid (((w3.alloc (.cells #[.slice (some ⟨g,0,none⟩) C.length cap] 139)).drew).ownsRow w.heap.size 138 2 (.slice (some ⟨g,0,none⟩) C.length cap) C.length (C.flatMap aT)):=HC3.out.alloc _;obtain⟨i5,hi0,oL,hz1,hz2⟩:=info_parts Tryz.infoIts;clear h4 hsb HZ
  go_cut [] from 8 (fun wx=> ∃cu,v.OL.length+1<=1000/\aj w0 wx d { v with sv:=cu,IV:=nY v (.slice (some ⟨g,0,none⟩) C.length cap),OL:=v.OL++[C] } G ng st/\aF d v { v with sv:=cu,IV:=nY v (.slice (some ⟨g,0,none⟩) C.length cap),OL:=v.OL++[C] } w wx)
  case first=>
   go_region_law
    ((refine step_append_lies _ (by rfl) _ _ _ (by rfl) w0.heap.size 139 i5 _ 1 24 Tryz.underlying104 hi0 oL hz1 hz2 rfl (by omega) (.slice sa v.OL.length sc) v.OL.length ((List.range v.OL.length).map v.IV) (by rfl) dz
       ⟨w3.heap.size,0,none⟩ 1 1 [.slice (some ⟨g,0,none⟩) C.length cap] (by rfl) (by rfl) (World.news_of_block (cs:= #[.slice (some ⟨g,0,none⟩) C.length cap]) (t:=139) (fr:=(0,0)) (heap_alloc_new w3 _)) (by simp[Value.oneCell'])
       (by omega) hn1 hn2 (by simp;omega) (w3.heap.size+1) (by simp) ?_;intro g5 cap5 w5 hown5 hgrow hat uZ;have y8:=(hgrow.cell_far ⟨d.ma,6,none⟩ (by simp;omega) hne).trans f6;have f6':=(hgrow.frozen_far ⟨d.ma,6,none⟩ (by simp;omega) hne).trans SL))
   all_goals
    go_wp2_with fail
    go_meet
    case rel=>
     have r:=HM.out.aaH gJ.out HC4.out (by rw[yV.out];exact hgrow) hown5 (fun g' hg'=>by
      obtain rfl:g5=g':=by simpa [Value.ownBlock] using hg'
      rw[yV.out]
      simpa using hat)
     exact⟨_,by omega,r.1,r.2⟩
  case rest=>
   obtain⟨cu,_,fT,rG⟩:=hcut;have c6:=(fT.cell (i:=6) rfl (by omega)).1;obtain⟨a5,k5,A7⟩:=fT.states;simp only[List.length_append,List.length_cons,List.length_nil,Nat.zero_add]at A7;simp only at c6;rw[A7]at c6;have HF:Hid (aj w0 wc d { v with sv:=cu,IV:=nY v (.slice (some ⟨g,0,none⟩) C.length cap),OL:=v.OL++[C] } G ng st/\aF d v { v with sv:=cu,IV:=nY v (.slice (some ⟨g,0,none⟩) C.length cap),OL:=v.OL++[C] } w wc):=⟨fT,rG⟩;clear fT rG A7 dz f6 e6 SL hne hn1 hn2
   go_wp2_with fail
   go_ret;exact⟨v.OL.length,{ v with sv:=cu,IV:=nY v (.slice (some ⟨g,0,none⟩) C.length cap),OL:=v.OL++[C] },C,by simp,HC.out.2.1,HC.out.2.2.1,.inr ⟨hno.out,rfl,rfl⟩,rfl,HF.out.1,HF.out.2⟩
end Go.Proofs.YtblkkhfdeaaidaaGreatDoor
