import Derived.Test.YthbifaoaiggooaaGreatDoorq26
set_option maxHeartbeats 6400000
set_option maxRecDepth 100000
namespace Go.Proofs.YthbifaoaiggooaaGreatDoor
open Go.Shelf Go.RowKit
theorem aiS{P:Program}(w:World)(base:Nat)(t u ty e:TypeId)(i:TypeInfo)(ht:P.underlying t=some (.slice e))(hu:P.underlying u=some .string)(hi:P.info? e=some i)(hz:i.zero=some (.int .u8 0))(hsize:i.size=1)(hby:i.bytes=1)
 (v:Value) (n:Nat) (xs:List Value) (hown:w.ownsRowF base e 1 v n xs) (s:ByteArray) (h63:n+s.size<=maxLen) (hbytes:n+s.size<=140737488355328) (hbase:base<=w.heap.size):
 ∃v' w',(Builtin.append_ #[t,u] ty #[v,.string s]).run P w= .ok v' w'/\w'.ownsRowF base e 1 v' (n+s.size) (xs++Lib.strCells s)/\w.grownBy w' v.ownBlock/\∀g,v'.ownBlock=some g->v.ownBlock=some g\/w.heap.size<=g:=by
 obtain⟨v',w',hr,h2,h3,_⟩:=Lib.run_append_own_stringF (P:=P) w base t u ty e i ht hu hi hz hsize hby v n xs hown s h63 hbytes hbase;refine⟨v',w',hr,h2,h3,λg hg=> ?_⟩;rcases hown.2 with⟨rfl,rfl⟩|⟨b,cap,cur,fz,rfl,hbg,hb,hfz,hnc,hcm,hcs,htake⟩
 ·obtain⟨v2,w2,hr2,k2,_⟩:=Lib.run_append_own_stringF (P:=P) w w.heap.size t u ty e i ht hu hi hz hsize hby (.slice none 0 0) 0 xs ⟨hown.1,.inl ⟨rfl,rfl⟩⟩ s h63 hbytes (ah _)
  rw[hr]at hr2;injection hr2 with e1 e2;subst e1 e2;exact .inr (k2.lt g hg).1
 ·have hxl:xs.length=n:=by simpa using hown.1
  have hsmall:n+s.size<=9223372036854775807:=by simp only[maxLen]at h63;omega
  by_cases hroom:n+s.size<=cap
  ·have hr2:=Lib.run_append_room_stringF (P:=P) w t u ty e i ht hu hi hsize b n cap cur fz hb (by simpa using hfz) s hroom (by simp at hcs;omega)
   rw[hr]at hr2;injection hr2 with e1 e2;rw[e1]at hg;exact .inl hg
  ·have hr2:=Lib.run_append_grow_string (P:=P) w t u ty e i (.int .u8 0) ht hu hi hz ⟨b,0,none⟩ n cap xs (by rw[hsize];simpa using hxl) (hown.cells (g:=b) rfl) s (by omega) (by omega) (by rw[hby];exact growslice_fits (by omega) (by omega))
   rw[hr]at hr2;injection hr2 with e1 e2;rw[e1]at hg;injection hg with hg;exact .inr (Nat.le_of_eq hg)
structure Np(b:Nat)(g:Option Nat)(w w':World):Prop where
 os:w'.os=w.os
 tape:w'.tape=w.tape
 output:w'.output=w.output
 size:w.heap.size<=w'.heap.size
 block:∀k,k<w.heap.size->k≠b->g≠some k->w'.heap[k]?=w.heap[k]?
section
variable{w:World}{B b:Nat}{bs:List Value}
theorem aiT(h:Lib.IsBuilderF 48 5 B b bs w):Calls Tryz.prog 40 #[.pointer (some ⟨b,0,none⟩)] w λe w'=>e= .returned (.tuple #[])/\Lib.BuilderAtF 48 5 B b (.pointer (some ⟨b,0,none⟩)) bs w'/\But b w w'/\w'.heap.size=w.heap.size/\w'.cell? ⟨b,1,none⟩=w.cell? ⟨b,1,none⟩:=by
 rcases h with h|h
 ·refine(Any.Builder_copyCheck_fresh (ρ:=Tryz.buW_ren) { Tryz.buW with } Tryz.buWx.toX72 b w h.cell0 h.shape h.frozen0).mono ?_
  rintro e w' ⟨rfl,rfl⟩;exact⟨rfl,h.used _,But.set _ _ _,by simp,BN _ _ _ _ (by simp)⟩
 ·refine(Any.Builder_copyCheck_used (ρ:=Tryz.buW_ren) { Tryz.buW with } Tryz.buWx.toX72 b w h.cell0).mono ?_
  rintro e w' ⟨rfl,rfl⟩;exact⟨rfl,h,But.refl _ _,rfl,rfl⟩
theorem aiU{P:Program}{ops:Array Oper}{rest:List Oper}{o:Oper}{a:Act}{Q:Exit->Act->World->Prop}{sl x:Operand}{t u e:TypeId}{i:TypeInfo}{base n:Nat}{v:Value}{xs:List Value}{s:ByteArray}(hgd:o.guard=none)(ho:o.op= .call { callee:= .builtin .append,args:= #[sl,x],argTypes:= #[t,u] })
 (ht:P.underlying t=some (.slice e)) (hu:P.underlying u=some .string) (hi:P.info? e=some i) (hz:i.zero=some (.int .u8 0)) (hsize:i.size=1) (hby:i.bytes=1) (hs:a.eval sl=v) (hx:a.eval x= .string s) (hown:w.ownsRowF base e 1 v n xs) (hb:n+s.size<=140737488355328) (hbase:base<=w.heap.size)
 (h:∀v' w',w'.ownsRowF base e 1 v' (n+s.size) (xs++Lib.strCells s)->w.grownBy w' v.ownBlock->(∀g,v'.ownBlock=some g->v.ownBlock=some g\/w.heap.size<=g)->wpList P ops Q rest (a.put o.dst v') w'):wpList P ops Q (o::rest) a w:=by
 obtain⟨v',w',k1,k2,k3,k4⟩:=aiS (P:=P) w base t u o.type e i ht hu hi hz hsize hby v n xs hown s (by unfold maxLen;omega) hb hbase;refine wpList_plain hgd λK hK=> ?_;unfold Oper.wp execOp;simp only[ho,resolve,invoke,builtin,Sem.run_bind,Sem.run_pure,Result.andThen_ok,FM,jB,oq,hs,hx,k1];exact hK _ _ (h v' w' k2 k3 k4)
theorem aiV{s:ByteArray}(h:Lib.IsBuilderF 48 5 B b bs w)(hlen:bs.length+s.size<=140737488355328)(hBw:B<=w.heap.size):
 Calls Tryz.prog 14 #[.pointer (some ⟨b,0,none⟩),.string s] w λe w'=>e= .returned (.tuple #[.int .i64 s.size,.nilIface])/\Lib.BuilderAtF 48 5 B b (.pointer (some ⟨b,0,none⟩)) (bs++Lib.strCells s) w'/\∀v0,w.cell? ⟨b,1,none⟩=some v0->∃v1,w'.cell? ⟨b,1,none⟩=some v1/\Np b v0.ownBlock w w'/\∀g,v1.ownBlock=some g->v0.ownBlock=some g\/w.heap.size<=g:=by
 obtain⟨i0,hi,hz0,hz1,hz2⟩:=fK Tryz.buWx.infoByte;have cc:=aiT h;have HB:Hid (bs.length+s.size<=140737488355328/\B<=w.heap.size):=⟨hlen,hBw⟩;clear h hlen hBw
 go_enter Tryz.func14,Tryz.ntmps14
 go_wp2_with (go_at_call 40;refine cc.mono ?_)
 rintro e w1 ⟨rfl,h1,h2,h3,h4⟩;obtain⟨hB,v,hbk,hown,hne⟩:=h1;have c0:w1.cell? ⟨b,0,none⟩=some (.pointer (some ⟨b,0,none⟩)):=by rw[Lib.cell_of_heap hbk];rfl
 have c1:w1.cell? ⟨b,1,none⟩=some v:=by rw[Lib.cell_of_heap hbk];rfl
 have H1:Hid (But b w w1/\w1.heap.size=w.heap.size/\w1.cell? ⟨b,1,none⟩=w.cell? ⟨b,1,none⟩):=⟨h2,h3,h4⟩;clear cc h2 h3 h4
 go_wp2_with (at_builtin;refine aiU (t:=46) (u:=9) rfl rfl Tryz.underlying46 Tryz.underlying9 hi hz0 hz1 hz2 rfl rfl hown HB.out.1 ?c5 ?_)
 case c5=>have:=HB.out.2;have:=H1.out.2.1;omega
 intro v' w2 hown' hgrow hat;have hlt:b<w1.heap.size:=(dx.1 hbk).1
 have hb2:w2.heap[b]?=some (.cells #[.pointer (some ⟨b,0,none⟩),v] 48 (0,0)):=by
  rw[hgrow.block b hlt (λe=>hne e.symm)];exact hbk
 have d0:w2.cell? ⟨b,0,none⟩=some (.pointer (some ⟨b,0,none⟩)):=by rw[Lib.cell_of_heap hb2];rfl
 have d1:w2.cell? ⟨b,1,none⟩=some v:=by rw[Lib.cell_of_heap hb2];rfl
 have f1:w2.frozen? ⟨b,1,none⟩=false:=Lib.frozen_of_heap hb2 1
 obtain⟨ao,n',cap,rfl⟩:∃ao n' cap,v'= .slice ao n' cap:=by
  rcases hown'.2 with⟨hv,_⟩|⟨g,cap,cur,fz,hv,_⟩<;>exact⟨_,_,_,hv⟩
 go_wp2
 refine aH (v:= .tuple #[.int .i64 s.size,.nilIface]) (by simp[results,Tryz.results14,go_sem]) rfl ⟨rfl,?_,λv0 hv0=>⟨_,Ae _ _ _ d1,?_,?_⟩⟩
 ·exact Lib.BuilderAtF.put hB hb2 (by simpa [Lib.strCells_length] using hown') (by decide)
 ·rw[<-H1.out.2.2,c1]at hv0
  cases hv0;obtain⟨q1,q2,q3⟩:=H1.out;have q4:But b w2 (w2.setCell ⟨b,1,none⟩ (.slice ao n' cap)):=But.set _ _ _;have hsz:=hgrow.size
  exact⟨q4.os.trans (hgrow.os.trans q1.os),q4.tape.trans (hgrow.tape.trans q1.tape),q4.output.trans (hgrow.output.trans q1.output),by have:=q4.size;omega,λk hk hkb hkg=>by
   rw[q4.block k (by omega) hkb,hgrow.block k (by omega) (λe=>hkg e.symm),q1.block k hk hkb]⟩
 ·rw[<-H1.out.2.2,c1]at hv0
  cases hv0;intro g hg;have:=H1.out.2.1;exact(hat g hg).imp id λh=>by omega
end
end Go.Proofs.YthbifaoaiggooaaGreatDoor
namespace Go.Proofs.YthbifaoaiggooaaGreatDoor
open Go.RowKit
def zY(w:World)(B E:Nat)(rv:Value)(R:List Ru):Prop:=E<=w.heap.size/\∀w':World,E<=w'.heap.size->(∀k,B<=k->k<E->w'.heap[k]?=w.heap[k]?)->aG w' w'.heap.size rv R
structure qN(w:World)(pb B E:Nat)(rv v0:Value)(p:bW)(o:List UInt8):Prop where
 pl:bR w pb B rv p
 rules:zY w B E rv p.R
 bu:Lib.IsBuilderF 48 5 (pb+1) (pb+1) (Lib.byteCells o) w
 row:w.cell? ⟨pb+1,1,none⟩=some v0
 lt:pb+1<B
 ap:∀g,v0.ownBlock=some g->pb+1<g/\g<w.heap.size/\(g<B\/E<=g)
section
variable{w w':World}{pb B E B':Nat}{rv v0 v1 rv':Value}{p p':bW}{o a:List UInt8}{R:List Ru}
theorem lD.upto(h:lD w B rv R):zY w B w.heap.size rv R:=⟨ah _,h⟩
theorem zY.within(h:zY w B E rv R):lD w B rv R:=λw' h1 h2=>h.2 w' (aZ h.1 h1) λk hB hE=>h2 k hB (jg hE h.1)
theorem zY.on(h:zY w B E rv R)(hs:E<=w'.heap.size)(hk:∀k,B<=k->k<E->w'.heap[k]?=w.heap[k]?):zY w' B E rv R:=⟨hs,λw2 h1 h2=>h.2 w2 h1 λk hB hE=>(h2 k hB hE).trans (hk k hB hE)⟩
theorem aaH{T e B b:Nat}{bs:List Value}(h:Lib.IsBuilderF T e B b bs w)(hb:But pb w w')(hB:pb<B):Lib.IsBuilderF T e B b bs w':=by
 have one:∀p,Lib.BuilderAtF T e B b p bs w->Lib.BuilderAtF T e B b p bs w':=λp h=>by
  obtain⟨h1,v,h2,h3,h4⟩:=h;refine⟨h1,v,(hb.block _ (dx.1 h2).1 (by omega)).trans h2,⟨h3.1,?_⟩,h4⟩;rcases h3.2 with h5|⟨g,cap,cur,fz,e1,e2,e3,e4⟩
  ·exact .inl h5
  ·exact .inr ⟨g,cap,cur,fz,e1,e2,(hb.block _ (dx.1 e3).1 (by omega)).trans e3,e4⟩
 exact h.imp (one _) (one _)
theorem qN.later(h:qN w pb B E rv v0 p o)(hb:Below w.heap.size w w'):qN w' pb B E rv v0 p o:=
 ⟨h.pl.later hb,h.rules.on (aZ h.rules.1 hb.size) λk _ hk=>hb.block k (jg hk h.rules.1),TW h.bu hb,(hb.cell (Ar h.bu)).trans h.row,h.lt,λg hg=>by have:=h.ap g hg;have:=hb.size;exact⟨by omega,by omega,by omega⟩⟩
theorem qN.does(h:qN w pb B E rv v0 p o)(hp:bR w' pb B' rv' p')(hb:But pb w w')(hB:Bh w B rv p B' rv' p'):∃E',qN w' pb B' E' rv' v0 p' o:=by
 have hlt:=h.lt;have hE:=h.rules.1;have hs:=hb.size;have hbl:=Ar h.bu;have hrow:w'.cell? ⟨pb+1,1,none⟩=some v0:=(pI (w:=w) (a:=⟨pb+1,1,none⟩) (hb.block (pb+1) hbl (by omega))).trans h.row;rcases hB with⟨rfl,rfl,hR⟩|hB
 ·exact⟨E,hp,by rw[hR];exact h.rules.on (by omega) λk h1 h2=>hb.block k (by omega) (by omega),aaH h.bu hb (by omega),hrow,hlt,λg hg=>by have:=h.ap g hg;exact⟨by omega,by omega,by omega⟩⟩
 ·exact⟨w'.heap.size,hp,hp.rules.upto,aaH h.bu hb (by omega),hrow,by omega,λg hg=>by have:=h.ap g hg;exact⟨by omega,by omega,by omega⟩⟩
theorem qN.write(h:qN w pb B E rv v0 p o)(hat:Lib.BuilderAtF 48 5 (pb+1) (pb+1) (.pointer (some ⟨pb+1,0,none⟩)) (Lib.byteCells o++Lib.strCells ⟨a.toArray⟩) w')(h1:w'.cell? ⟨pb+1,1,none⟩=some v1)(h2:Np (pb+1) v0.ownBlock w w')(h3:∀g,v1.ownBlock=some g->v0.ownBlock=some g\/w.heap.size<=g):qN w' pb B E rv v1 p (o++a):=by
 have hlt:=h.lt;have hE:=h.rules.1;have hs:=h2.size;have hpb:=h.pl.below;have hr:zY w' B E rv p.R:=h.rules.on (by omega) λk k1 k2=>h2.block k (by omega) (by omega) λe=>by have:=h.ap k e;omega
 have hbu:Lib.IsBuilderF 48 5 (pb+1) (pb+1) (Lib.byteCells (o++a)) w':=by
  refine .inr ?_;have e:Lib.byteCells (o++a)=Lib.byteCells o++Lib.strCells ⟨a.toArray⟩:=by rw[Lib.strCells_eq,Lib.byteCells_append]
  rw[e];exact hat
 refine⟨⟨(h2.block pb hpb (by omega) λe=>by have:=h.ap pb e;omega).trans h.pl.at_,h.pl.lt,hr.within,h.pl.good⟩,hr,hbu,h1,hlt,λg hg=> ?_⟩;obtain⟨-,v,k2,k3,k4⟩:=hat;have e:some v=some v1:=(ay (i:=1) k2 rfl).symm.trans h1;cases e;have l1:=k3.lt g hg;have l2:g≠pb+1:=λe=>k4 (by rw[hg,e]);refine⟨by omega,by omega,?_⟩;rcases h3 g hg with e|e
 ·exact(h.ap g e).2.2
 ·exact .inr (by omega)
theorem Np.below{b g:Nat}{v:Option Nat}(h:Np b v w w')(hb:g<=b)(hg:∀k,v=some k->g<=k)(hs:g<=w.heap.size):Below g w w':=
 ⟨h.os,h.tape,h.output,h.size,λk hk=>h.block k (by omega) (by omega) λe=>by have:=hg k e;omega⟩
theorem aaI(c:UInt8)(s:List UInt8):(l5 c s).1.length+(l5 c s).2.1.length<=s.length:=by
 unfold l5;cases h:jF c s with
 |none=>simp
 |some q=>obtain⟨x,y⟩:=q;have:=NQ h;simp only;omega
theorem aiW(w:World):qN ((w.alloc (.cells #[.int .i64 0,.int .i64 0,.slice none 0 0,.string ⟨#[]⟩] 44)).alloc (.cells #[.pointer none,.slice none 0 0] 48)) w.heap.size (w.heap.size+2) (w.heap.size+2) (.slice none 0 0) (.slice none 0 0) ⟨[],0,0,[]⟩ []:=by
 obtain⟨W1,hW1⟩:=af (w.alloc (.cells #[.int .i64 0,.int .i64 0,.slice none 0 0,.string ⟨#[]⟩] 44));have hz:W1.heap.size=w.heap.size+1:=by rw[<-hW1];simp
 have hx:=heap_alloc_new w (.cells #[.int .i64 0,.int .i64 0,.slice none 0 0,.string ⟨#[]⟩] 44);rw[hW1]at hx⊢;have hb:=TV W1;have hy:=heap_alloc_new W1 (.cells #[.pointer none,.slice none 0 0] 48);rw[hz]at hb hy;have hr:zY (W1.alloc (.cells #[.pointer none,.slice none 0 0] 48)) (w.heap.size+2) (w.heap.size+2) (.slice none 0 0) []:=⟨by simp;omega,λw' _ _=>⟨⟨none,0,rfl⟩,λp hp=>absurd hp (by simp)⟩⟩;exact⟨⟨(heap_alloc_old W1 _ (dx.1 hx).1).trans hx,by omega,hr.within,.inl rfl⟩,hr,hb,ay hy rfl,by omega,λg hg=>by cases hg⟩
end
def ol:bW:=⟨[],0,0,[]⟩
section
variable{w:World}{G:Nat}{s:List UInt8}
theorem aiX(hE:dR G w)(hG:G<=w.heap.size)(hs:s.length<=281474976710656):Calls Tryz.prog 6 #[.string ⟨s.toArray⟩] w λe w'=> ∃o,jf 60 s ol o/\e= .returned (.string ⟨o.toArray⟩)/\Below w.heap.size w w':=by
 obtain⟨W2,hW2⟩:=af ((w.alloc (.cells #[.int .i64 0,.int .i64 0,.slice none 0 0,.string ⟨#[]⟩] 44)).alloc (.cells #[.pointer none,.slice none 0 0] 48));have hP:=aiW w;rw[hW2]at hP;have hB2:Below w.heap.size w W2:=by rw[<-hW2];exact((ai _ _).alloc (ah _) _).alloc (by simp) _
 obtain⟨pb,hpb⟩:=af w.heap.size;rw[hpb]at hP hB2 hG⊢;have HI:Hid (qN W2 pb (pb+2) (pb+2) (.slice none 0 0) (.slice none 0 0) ol []/\Below pb w W2/\dR G w/\G<=pb/\w.heap.size=pb):=⟨hP,hB2,hE,hG,hpb⟩;have HW:Hid ((w.alloc (.cells #[.int .i64 0,.int .i64 0,.slice none 0 0,.string ⟨#[]⟩] 44)).alloc (.cells #[.pointer none,.slice none 0 0] 48)=W2/\w.heap.size=pb):=⟨hW2,hpb⟩;clear hE hG hP hB2 hW2 hpb
 go_enter Tryz.func6,Tryz.ntmps6
 go_upto_region 3 with fail
 rw[HW.out.1];rw[HW.out.2];clear HW
 go_wp2_with fail
 go_loopw [0,5] (λs0 s5 wr=> ∃(k:Nat) (t:List UInt8) (p:bW) (o:List UInt8) (B E:Nat) (rv v0:Value),s0= .string ⟨t.toArray⟩/\s5= .int .i64 k/\k<=60/\qN wr pb B E rv v0 p o/\Below pb w wr/\(t.length<=s.length/\p.tx.length+t.length<=s.length+k/\o.length<=20001*k)/\∀o',jf (60-k) t p o'->jf 60 s ol (o++o')) (λ_ v _=>60-(intOf v).toNat)
 case atStart=>exact⟨0,s,ol,[],_,_,_,_,rfl,rfl,aP _,HI.out.1,HI.out.2.1,⟨ah _,by simp[ol],by simp⟩,λo' h=>h⟩
 case round=>
  obtain⟨k,t,p,o,B,E,rv,v0,rfl,rfl,hk,hP,hB,⟨hts,htl,hol⟩,hR⟩:=hrel;have HP:Hid (qN wr pb B E rv v0 p o/\Below pb w wr/\pb+1<=wr.heap.size):=⟨hP,hB,iQ (Ar hP.bu)⟩
  have JH:(t=[]\/k=60)->jf 60 s ol o:=λh=>by
   have:jf (60-k) t p []:=by
    rcases h with rfl|rfl
    ·cases 60-k with
     |zero=>exact rfl
     |succ n=>exact .inl ⟨rfl,rfl⟩
    ·exact rfl
   simpa using hR [] this
  have bs:=R3 (pb+1) (pb+1) o wr hP.bu HP.out.2.2;cases e0:t.isEmpty with
  |true=>
   have HO:Hid (jf 60 s ol o):=JH (.inl (List.isEmpty_iff.1 e0));clear hP hB hR JH
   go_wp2_with
    (go_at_call 15;refine bs.mono ?_;rintro e w2 ⟨rfl,-,h2,-⟩
     have H2:Hid (Below pb w w2):=HP.out.2.1.trans (h2.mono (nK _))
     clear bs h2)
   go_ret;exact⟨o,HO.out,rfl,H2.out⟩
  |false=>
   by_cases Nq:k<60
   ·have d1:decide ((k:Int)<60)=true:=aT (by omega)
    have ct:=NR (c:=10) (s:=t) (by omega) wr;have hcl:=aaI 10 t;obtain⟨⟨l,r,m⟩,hcut⟩:=af (l5 10 t);rw[hcut]at ct hcl;simp only at ct hcl
    have HAW:Hid (∀wq,Below wr.heap.size wr wq->Calls Tryz.prog 13 #[.pointer (some ⟨pb,0,none⟩),.string ⟨l.toArray⟩] wq λe w'=> ∃v,e= .returned v/\iP w' v pb B rv p (dN p l)/\Below wq.heap.size wq w'):=λwq hq=>
     aiR (hP.pl.later hq) ((HI.out.2.2.1.below hB HI.out.2.2.2.1).below hq (by have:=HI.out.2.2.2.1;have:=HP.out.2.2;omega)) HI.out.2.2.2.1 (by omega) (by omega)
    have HN:Hid (l5 10 t=(l,r,m)/\t≠[]/\t.length<=s.length/\l.length+r.length<=t.length/\p.tx.length+t.length<=s.length+k/\o.length<=20001*k/\k<60/\s.length<=281474976710656/\∀o',jf (60-k) t p o'->jf 60 s ol (o++o')):=⟨hcut,(λe=>by rw[e]at e0;cases e0),hts,hcl,htl,hol,Nq,hs,hR⟩;clear hP hB hR JH hcut hcl htl hol hts bs hs
    go_upto_region 8 with
     (first
      |(go_at_call 12;refine ct.mono ?_;rintro e w2 ⟨rfl,h2⟩
        have aw:=HAW.out w2 h2;have H2:Hid (Below wr.heap.size wr w2):=h2
        clear ct h2)
      |(go_at_call 13;refine aw.mono ?_;rintro e w3 ⟨v,rfl,hd,h3⟩
        have HD:Hid (iP w3 v pb B rv p (dN p l)/\Below wr.heap.size wr w3):=⟨hd,H2.out.trans (h3.mono H2.out.size)⟩
        clear aw hd h3))
    obtain⟨dn,bound,caps,args,hv,hargs,hdn,hcall⟩:=HD.out.1;subst hv
    go_wp2_with
     (first
      |(refine Calls.mono hcall ?_;rintro e w4 ⟨o1,p1,B1,FD,hA,rfl,hp1,hb1,hB1⟩
        obtain⟨E1,mM⟩:=(HP.out.1.later HD.out.2).does hp1 hb1 hB1;obtain⟨hl1,hl2⟩:=aah HP.out.1.pl.good (by have:=HN.out;omega) hA;have add:=qY (P:=Tryz.prog) o1 [10] (by simp;omega);obtain⟨o2,ho2⟩:=af (o1++[10]);have hl3:o2.length=o1.length+1:=by rw[<-ho2];simp
        rw[ho2]at add;have J3:=Ar mM.bu;have hwr:=aiV (s:=⟨o2.toArray⟩) mM.bu (by rw[Lib.byteCells_length,show (⟨o2.toArray⟩:ByteArray).size=o2.length by simp[ByteArray.size]];have:=HN.out;omega) (iQ J3);have hb4:Below pb w w4:=(HP.out.2.1.trans (HD.out.2.mono (Nat.le_of_succ_le HP.out.2.2))).trans (hb1.below (ah _) (by have:=HD.out.2.size;have:=HP.out.2.2;omega));have H4:Hid (qN w4 pb B1 E1 FD v0 p1 o/\Below pb w w4/\dN p l p1 o1/\o1++[10]=o2/\o2.length<=20001/\p1.tx.length<=p.tx.length+l.length+1):=⟨mM,hb4,hA,ho2,by omega,hl2⟩
        clear hcall hA hp1 hb1 hB1 mM hl1 hl2 hl3 J3 hb4 ho2)
      |(go_at_call 14;refine hwr.mono ?_;rintro e w5 ⟨rfl,hat,hx⟩
        obtain⟨v1,hx1,hx2,hx3⟩:=hx v0 H4.out.1.row;have H5:Hid (qN w5 pb B1 E1 FD v1 p1 (o++o2)/\Below pb w w5):=⟨H4.out.1.write hat hx1 hx2 hx3,H4.out.2.1.trans (hx2.below (nK _) (λk hk=>by have:=H4.out.1.ap k hk;omega) (by have:=Ar H4.out.1.bu;omega))⟩
        clear hwr hat hx hx1 hx2 hx3))
    go_roundw
    case rel=>
     obtain⟨hcut,hne,hts,hcl,htl,hol,-,-,hR⟩:=HN.out;obtain⟨mM,-,hA,ho2,hl2,hl1⟩:=H4.out;refine⟨k+1,r,p1,o++o2,B1,E1,FD,v1,rfl,by go_num,by omega,H5.out.1,H5.out.2,⟨by omega,by omega,by rw[aS];omega⟩,λo' h=> ?_⟩;rw[mG];refine hR _ ?_;obtain⟨n,hn⟩:∃n,60-k=n+1:=⟨60-(k+1),by omega⟩;rw[show 60-(k+1)=n by omega]at h;rw[hn,jf,hcut];exact .inr ⟨hne,p1,o1,o',hA,mM.pl.good,h,by rw[ho2]⟩
    case measure=>simp[intOf];omega
   ·have d1:decide ((k:Int)<60)=false:=aU (by omega)
    have HO:Hid (jf 60 s ol o):=JH (.inr (by omega));clear hP hB hR JH
    go_wp2_with
     (go_at_call 15;refine bs.mono ?_;rintro e w2 ⟨rfl,-,h2,-⟩
      have H2:Hid (Below pb w w2):=HP.out.2.1.trans (h2.mono (nK _))
      clear bs h2)
    go_ret;exact⟨o,HO.out,rfl,H2.out⟩
end
theorem aiY{L:List (List UInt8)}{i:Nat}{x:List UInt8}{r:List (List UInt8)}(h:L.drop i=x::r):L.getD i []=x/\L.drop (i+1)=r:=by
 constructor
 ·have:=JK (xs:=L) (i:=i) (j:=0)
  rw[h]at this;simp only[List.getElem?_cons_zero,Nat.add_zero]at this;simp[List.getD,<-this]
 ·rw[<-List.tail_drop,h]
  rfl
theorem aiZ(s:List UInt8):(oh s).length<=s.length+1:=by
 have:=Ni 10 s;unfold oh;split
 ·simp;omega
 ·exact this
theorem ai0{s:List UInt8}{P:List (List UInt8)}{k:Nat}(hP:splitB 10 s=P)(hk:P.length=k+1):((P.getD k []=[]/\(oh s).length=k)\/(P.getD k []≠[]/\(oh s).length=k+1))/\∀j,j<(oh s).length->(oh s).getD j []=P.getD j []:=by
 have hl:P.getLastD []=P.getD k []:=by
  rw[List.getLastD_eq_getLast?,List.getLast?_eq_getElem?,hk];rfl
 unfold oh;rw[hP,hl];by_cases h:P.getD k []=[]
 ·rw[au h]
  refine⟨.inl ⟨h,by rw[List.length_dropLast,hk];rfl⟩,λj hj=> ?_⟩;rw[List.length_dropLast]at hj;simp only[List.getD,List.getElem?_dropLast,au hj]
 ·rw[aj h]
  exact⟨.inr ⟨h,hk⟩,λj _=>rfl⟩
section
variable{w:World}{G:Nat}{s:List UInt8}
theorem ai1(hE:dR G w)(hG:G<=w.heap.size)(hs:s.length<=1048576):Calls Tryz.prog 3 #[.string ⟨s.toArray⟩] w λe w'=>e= .returned (.bool true)/\Below w.heap.size w w':=by
 have sp:=aau w s 10 (by omega);have HS:Hid (dR G w/\G<=w.heap.size/\s.length<=1048576):=⟨hE,hG,hs⟩;have hne:=RO 10 s;have yE:=Ni 10 s;obtain⟨P,hP⟩:=af (splitB 10 s);rw[hP]at hne yE sp;obtain⟨k,hk⟩:∃k,P.length=k+1:=⟨P.length-1,by have:=FL.2 hne;omega⟩;obtain⟨hlast,hat⟩:=ai0 hP hk;have hml:=aiZ s;obtain⟨m,hm⟩:=af ((oh s).length);rw[hm]at hlast hat hml;rw[hk]at sp yE;have HM:Hid (P.length=k+1/\(oh s).length=m/\∀j,j<m->(oh s).getD j []=P.getD j []):=⟨hk,hm,hat⟩;have hmk:m<=k+1:=by rcases hlast with h|h<;>omega
 clear hE hG hs hne hP hat hk hm
 go_enter Tryz.func3,Tryz.ntmps3
 go_upto_region 2 with
  (go_at_call 4;refine sp.mono ?_;rintro e w2 ⟨v,rfl,hO,hB2⟩
   clear sp)
 obtain⟨g,cap,rfl,_,_⟩:=hO.form (by omega)
 have hcap:k+1<=cap:=by
  rcases hO.2 with⟨h1,_⟩|⟨g',cap',cur,h1,_,_,h2,_⟩
  ·cases h1
  ·injection h1 with _ _ h1
   rw[h1];exact h2
 have HC:Hid (∀wq,Below w2.heap.size w2 wq->∀j,j<k+1->wq.cell? ⟨g,j,none⟩=some (.string ⟨(P.getD j []).toArray⟩)):=λwq hq j hj=>by
  rw[hq.cell (hO.lt g rfl).2,hO.cellAt j (by have:=HM.out.1;omega)];simp[wM,List.getD,HM.out.1,hj]
 have HB2:Hid (Below w.heap.size w w2):=hB2;have cl:=HC.out w2 (ai _ _) k (by omega);obtain⟨z,hz⟩:=af (P.getD k []);rw[hz]at cl hlast;clear hO hB2 hz;have hk2:k<=1048576:=by have:=HS.out.2.2;omega
 have hwk:wrap64 (k:Int)=(k:Int):=by unfold wrap64;omega
 have k0:(0:Int)<=(k:Int):=aF _;have k1:(k:Int)<(k:Int)+1:=by omega
 have k2:(k:Int)<=(cap:Int):=by omega
 obtain⟨zb,hzb⟩:=af z.isEmpty
 have hlast:(zb=true/\m=k)\/(zb=false/\m=k+1):=by
  rcases hlast with⟨h1,h2⟩|⟨h1,h2⟩
  ·exact .inl ⟨by rw[<-hzb,h1];rfl,h2⟩
  ·exact .inr ⟨by rw[<-hzb];simpa using h1,h2⟩
 go_upto_if 16 with fail
 go_cut [3] from 17 to 21 (λs3 wx=>s3= .slice (some ⟨g,0,none⟩) m cap/\wx=w2)
 case first=>
  clear hzb;rcases hlast with⟨rfl,rfl⟩|⟨rfl,rfl⟩
  all_goals
   go_wp2_with fail
   go_meet
   case rel=>exact⟨rfl,rfl⟩
 case rest=>
  obtain⟨rfl,hwc⟩:=hcut;subst hwc;have hm2:m<=2000000:=by have:=HS.out.2.2;omega
  clear cl hlast hzb hcap hwk k0 k1 k2 hk2 yE hml;obtain⟨W3,hW3⟩:=af (wc.alloc (.cells #[.int .i64 0,.int .i64 0,.slice none 0 0,.string ⟨#[]⟩,.bool false] 29));have hB3:Below wc.heap.size wc W3:=by rw[<-hW3];exact(ai _ _).alloc (ah _) _
  have hx3:=heap_alloc_new wc (.cells #[.int .i64 0,.int .i64 0,.slice none 0 0,.string ⟨#[]⟩,.bool false] 29);rw[hW3]at hx3;obtain⟨pb,hpb⟩:=af wc.heap.size;have hz3:W3.heap.size=pb+1:=by rw[<-hW3,<-hpb];simp
  rw[hpb]at hx3 hB3;have hP0:dZ W3 pb (pb+1) (.slice none 0 0) ol:=⟨hx3,by omega,λw' _ _=>⟨⟨none,0,rfl⟩,λp hp=>absurd hp (by simp[ol])⟩,.inl rfl⟩;have H3:Hid (dZ W3 pb (pb+1) (.slice none 0 0) ol/\Below pb wc W3/\wc.heap.size=pb/\w.heap.size<=pb):=⟨hP0,hB3,hpb,by have:=HB2.out.size;omega⟩;have HW3:Hid (wc.alloc (.cells #[.int .i64 0,.int .i64 0,.slice none 0 0,.string ⟨#[]⟩,.bool false] 29)=W3):=hW3;clear hP0 hB3 hx3 hW3 hpb hz3
  go_upto_region 5 with fail
  rw[HW3.out];rw[H3.out.2.2.1];clear HW3
  go_wp2_with fail
  go_loopw [5,6] (λv5 v6 wr=> ∃(i:Nat) (t:List UInt8) (p:bW) (o:List UInt8) (B:Nat) (rv:Value),v5= .string ⟨o.toArray⟩/\v6= .int .i64 i/\i<=m/\i<=60/\(oh s).drop i=oh t/\dZ wr pb B rv p/\Below pb wc wr/\(t.length<=s.length/\p.tx.length+t.length<=s.length+i/\o.length<=20001*i)/\∀o',jf (60-i) t p o'->jf 60 s ol (o++o')) (λ_ v _=>m-(intOf v).toNat)
  case atStart=>exact⟨0,s,ol,[],_,_,rfl,rfl,aP _,aP _,rfl,H3.out.1,H3.out.2.1,⟨ah _,by simp[ol],by simp⟩,λo' h=>h⟩
  case round=>
   obtain⟨i,t,p,o,B,rv,rfl,rfl,hi,ajt,hdr,hP,hB,⟨hts,htl,hol⟩,hR⟩:=hrel;have hBw:Below w.heap.size w wr:=HB2.out.trans (hB.mono H3.out.2.2.2);have hs1:=HS.out.2.2;have HP:Hid (dZ wr pb B rv p/\Below pb wc wr/\Below w.heap.size w wr):=⟨hP,hB,hBw⟩;by_cases hgo:i<m/\i<60
   ·obtain⟨hlt,Nq⟩:=hgo
    have d1:decide ((i:Int)<(m:Int))=true:=aT (by omega);have d2:decide ((i:Int)<60)=true:=aT (by omega)
    have hne:t≠[]:=λe=>by
     rw[e,aio]at hdr;have:=congrArg List.length hdr;rw[pE,HM.out.2.1]at this;simp at this;omega
    rw[aai hne]at hdr;obtain⟨hd1,hd2⟩:=aiY hdr;have hcl:=aaI 10 t;have cw:=HC.out wr (by rw[H3.out.2.2.1];exact hB) i (by omega);rw[<-HM.out.2.2 i hlt,hd1]at cw;obtain⟨⟨l,r,b⟩,hcut⟩:=af (l5 10 t);rw[hcut]at cw hd2 hcl;simp only at cw hd2 hcl;have ln:=aiO (l:=l) hP (by omega) (by omega);have HN:Hid (l5 10 t=(l,r,b)/\t≠[]/\(oh s).drop (i+1)=oh r/\l.length+r.length<=t.length/\(t.length<=s.length/\p.tx.length+t.length<=s.length+i/\o.length<=20001*i/\s.length<=1048576)/\∀o',jf (60-i) t p o'->jf 60 s ol (o++o')):=⟨hcut,hne,hd2,hcl,⟨hts,htl,hol,hs1⟩,hR⟩;have j0:(0:Int)<=(i:Int):=aF _;have j1:(i:Int)<(m:Int):=by omega
    clear hP hB hBw hR hdr hd1 hd2 hcl hcut hne hts htl hs1
    go_upto_region 10 with
     (go_at_call 5;refine ln.mono ?_;rintro e w4 ⟨o1,p1,B1,FD,hA,rfl,hp1,hb1⟩
      clear ln)
    obtain⟨hl1,hl2⟩:=aah HP.out.1.good (by have:=HN.out.2.2.2;omega) hA;have add1:=qY (P:=Tryz.prog) o o1 (by omega);obtain⟨o2,ho2⟩:=af (o++o1);have hl3:o2.length=o.length+o1.length:=by rw[<-ho2];simp
    rw[ho2]at add1;have add2:=qY (P:=Tryz.prog) o2 [10] (by simp;omega);obtain⟨o3,ho3⟩:=af (o2++[10]);have hl4:o3.length=o2.length+1:=by rw[<-ho3];simp
    rw[ho3]at add2;have H4:Hid (dZ w4 pb B1 FD p1/\Below pb wc w4/\dN p l p1 o1/\o++(o1++[10])=o3/\o3.length<=o.length+20001/\p1.tx.length<=p.tx.length+l.length+1):=⟨hp1,HP.out.2.1.trans (hb1.below (ah _) (by have:=HP.out.2.1.size;have:=H3.out.2.2.1;omega)),hA,by rw[<-ho3,<-ho2,mG],by omega,hl2⟩;clear hA hp1 hb1 hl1 hl2 hl3 hl4 ho2 ho3 hol cw
    go_wp2_with fail
    go_roundw
    case rel=>
     obtain⟨hcut,hne,hd2,hcl,⟨hts,htl,hol,hs1⟩,hR⟩:=HN.out;obtain⟨h1,h2,hA,ho3,hl3,hl1⟩:=H4.out;refine⟨i+1,r,p1,o3,B1,FD,rfl,by go_num,by omega,by omega,hd2,h1,h2,⟨by omega,by omega,by omega⟩,λo' h=> ?_⟩;rw[<-ho3,mG];refine hR _ ?_;obtain⟨n,hn⟩:∃n,60-i=n+1:=⟨60-(i+1),by omega⟩;rw[show 60-(i+1)=n by omega]at h;rw[hn,jf,hcut];exact .inr ⟨hne,p1,o1,o',hA,h1.good,h,rfl⟩
    case measure=>simp[intOf];omega
   ·have hend:jf 60 s ol o:=by
     have:jf (60-i) t p []:=by
      by_cases Nq:i=60
      ·rw[Nq];exact rfl
      ·obtain⟨n,hn⟩:∃n,60-i=n+1:=⟨60-(i+1),by omega⟩
       rw[hn,jf];refine .inl ⟨?_,rfl⟩;by_cases e:t=[]
       ·exact e
       ·rw[aai e]at hdr
        have:=congrArg List.length hdr;rw[pE,HM.out.2.1]at this;simp at this;omega
     simpa using hR [] this
    have pl:=aiX (w:=wr) (s:=s) (HS.out.1.below hBw HS.out.2.1) (aZ HS.out.2.1 hBw.size) (by omega);have HO:Hid (jf 60 s ol o):=hend;clear hP hB hBw hR hdr hts htl hol hs1 hend;by_cases hlt:i<m
    ·have d1:decide ((i:Int)<(m:Int))=true:=aT (by omega)
     have d2:decide ((i:Int)<60)=false:=aU (by omega);clear hgo
     go_wp2_with
      (go_at_call 6;refine pl.mono ?_;rintro e w5 ⟨o5,h5,rfl,h6⟩
       obtain rfl:o=o5:=jf.one (.inl rfl) HO.out h5;have H6:Hid (Below w.heap.size w w5):=HP.out.2.2.trans (h6.mono HP.out.2.2.size)
       clear pl h5 h6)
     go_ret;exact⟨rfl,H6.out⟩
    ·have d1:decide ((i:Int)<(m:Int))=false:=aU (by omega)
     clear hgo
     go_wp2_with
      (go_at_call 6;refine pl.mono ?_;rintro e w5 ⟨o5,h5,rfl,h6⟩
       obtain rfl:o=o5:=jf.one (.inl rfl) HO.out h5;have H6:Hid (Below w.heap.size w w5):=HP.out.2.2.trans (h6.mono HP.out.2.2.size)
       clear pl h5 h6)
     go_ret;exact⟨rfl,H6.out⟩
end
end Go.Proofs.YthbifaoaiggooaaGreatDoor
