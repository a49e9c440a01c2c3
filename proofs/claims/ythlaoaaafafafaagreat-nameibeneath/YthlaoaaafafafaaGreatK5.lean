/- Ours. -/
import Derived.Test.YthlaoaaafafafaaGreatK4
set_option maxRecDepth 100000
set_option maxHeartbeats 16000000
namespace Go.Proofs.YthlaoaaafafafaaGreat
open Go Go.RowKit Go.Maps
section
variable {hi rb c:Nat} {w w0:World} {s t:SS}
def TailPost (hi rb:Nat) (t:SS) (w0:World) (e:Ending) (w':World):Prop:=(∃ r,e=.returned r)/\RefAt6 hi w' rb t/\Turns isR (.up hi) w0 w'
def RenTail (hi rb:Nat) (F:SS) (w0:World) (d2:Int) (n2:ByteArray) (k:Int) (kind:Nat) (w:World):Prop :=
 Calls Tryz.prog 94 #[ptr rb,.int .i64 d2,.string n2,.int .i64 k] w fun e w4=>(∃ r,e=.returned r) ∧
  (kind=2->∃ j:Nat,(Calls Tryz.prog 29 #[ptr rb,.int .i64 k] w4 fun e w5=>e=.returned (.int .i64 (j:Int))/\w5=w4)/\∃ g m cap,w4.cell? ⟨rb,0,none⟩=some (.slice (some ⟨g,0,none⟩) m cap)/\j < m/\(∃ z,w4.cell? ⟨g,j * 9+4,none⟩=some z)/\w4.frozen? ⟨g,j * 9+4,none⟩=false ∧
   Calls Tryz.prog 56 #[ptr rb,.int .i64 k,.bool false,.int .i64 (-1)] (w4.setCell ⟨g,j * 9+4,none⟩ (.int .i64 d2)) (TailPost hi rb F w0)) ∧
  (kind ≠ 2->Calls Tryz.prog 56 #[ptr rb,.int .i64 k,.bool false,.int .i64 (-1)] w4 (TailPost hi rb F w0))
theorem ren_tail (h:RefAt6 hi w rb t) (hf:Wf t c) (hc:c<=850) {en kn:Nd} (hem:en ∈ t.L) (hkm:kn ∈ t.L) (R:DRelE en.ds en.ds) (hl:kn.links < 32) (hh:1<=kn.holds) (nm:ByteArray) (hsz:nm.size<=10000) (h0:Turns isR (.up hi) w0 w) {F:SS} (hF:(mapS (mapS t (linkG en.ino kn.ino nm)) (unholdG kn.ino)).gc=F) :
 RenTail hi rb F w0 en.ino nm kn.ino kn.kind w:=by
 have hf2:Wf (addEnt t en.ino nm kn.ino) (c+1):=hf.ents en.ino (addS nm kn.ino) fun _ _ h7=>addS_len (hf.ds _ (look_mem h7).1)
 have hf3:Wf (moreS (addEnt t en.ino nm kn.ino) kn.ino true) (c+2):=hf2.more1 _ _;obtain ⟨i,hx⟩:=look_of hf hem;obtain ⟨j,hy⟩:=look_of hf hkm
 have hl2:=look_upd (x:=(en.ino:Int)) (g:=fun n=>n.withD (addS nm kn.ino n.ds)) hf (fun _=>rfl) hy
 have em:moreE (addEnt t en.ino nm kn.ino) kn.ino true=0:=more_ok hl2 (by split <;> exact hl)
 have hl3:=look_upd (x:=(kn.ino:Int)) (g:=fun n=>n.cntd true (n.cnt true+1)) hf2 (fun n=>(cntd_ino n _ _).1) hl2
 have e3:=more_upd hf2 em;have hlk:=link_is hf hem hkm hl nm;unfold RenTail
 refine (radd7 h hf (by omega) hx R nm hsz kn.ino).mono ?_
 rintro e w4 ⟨rfl,h1,h2⟩;have hmem:linkG en.ino kn.ino nm kn ∈ (mapS t (linkG en.ino kn.ino nm)).L:=List.mem_map_of_mem hkm
 have hend:∀ (w5:World),RefAt6 hi w5 rb (mapS t (linkG en.ino kn.ino nm))->Turns isR (.up hi) w0 w5->Wf (mapS t (linkG en.ino kn.ino nm)) (c+2)->Calls Tryz.prog 56 #[ptr rb,.int .i64 kn.ino,.bool false,.int .i64 (-1)] w5 (TailPost hi rb F w0):=fun w5 h5 h6 h7=>by
  refine (rlessH h5 h7 (by omega) kn.ino).mono ?_
  rintro e w6 ⟨rfl,h8,h9⟩;have e4:=unhold_is h7 hmem hh;have e5:(linkG en.ino kn.ino nm kn).ino=kn.ino:=rfl;rw [e5] at e4;rw [e4,hF] at h8
  exact ⟨⟨_,rfl⟩,h8,h6.trans h9⟩
 refine ⟨⟨_,rfl⟩,fun hk => ?_,fun hk => ?_⟩
 . rw [if_pos hk] at hlk
   have hy3:∃ n,look (moreS (addEnt t en.ino nm kn.ino) kn.ino true) kn.ino=some (j,n):=⟨_,by rw [e3];exact hl3⟩
   obtain ⟨n3,hy3⟩:=hy3
   have hlen:(moreS (addEnt t en.ino nm kn.ino) kn.ino true).L.length<=1000000:=by have:=hf3.room;have:=hf3.most;omega
   have cA:=rat_any h1 kn.ino hlen;rw [ixZ_look_some hy3] at cA;obtain ⟨g,mm,cap,q0,q1,q2,q3,h13,h14⟩:=ref_par_at h1 hf3 hy3 en.ino;rw [hlk] at h13;have hw:=hf3.par kn.ino en.ino;rw [hlk] at hw
   exact ⟨j,cA,g,mm,cap,q0,q1,q2,q3,hend _ h13 ((h0.trans h2).trans h14) hw⟩
 . rw [if_neg hk] at hlk;rw [hlk] at h1 hf3
   exact hend _ h1 (h0.trans h2) hf3
def RenEnd (hi rb:Nat) (F:SS) (w0:World) (d1:Int) (n1:ByteArray) (d2:Int) (n2:ByteArray) (k:Int) (kind:Nat) (there:Bool) (w:World):Prop :=
 Calls Tryz.prog 56 #[ptr rb,.int .i64 k,.bool false,.int .i64 1] w fun e w1=>(∃ r,e=.returned r) ∧
  Calls Tryz.prog 97 #[ptr rb,.int .i64 d1,.string n1] w1 fun e w2=>(∃ r,e=.returned r) ∧
   (there=false->RenTail hi rb F w0 d2 n2 k kind w2) ∧
   (there=true->Calls Tryz.prog 97 #[ptr rb,.int .i64 d2,.string n2] w2 fun e w3=>(∃ r,e=.returned r)/\RenTail hi rb F w0 d2 n2 k kind w3)
variable {dn en kn wn:Nd} {n1 n2:ByteArray}
theorem ren_first_drop (h:RefAt6 hi w rb s) (hf:Wf s c) (ht:Tree s) (hc:c<=800) (hdm:dn ∈ s.L) (hkm:kn ∈ s.L) (hh:has n1 dn.ds=true) (hfd:find n1 dn.ds=(kn.ino:Int)) (h0:Turns isR (.up hi) w0 w) :
 Wf (mapS (mapS s (holdG kn.ino)) (unlinkG dn.ino kn.ino n1)) (c+3)/\Calls Tryz.prog 56 #[ptr rb,.int .i64 kn.ino,.bool false,.int .i64 1] w fun e w1=>(∃ r,e=.returned r) ∧
  Calls Tryz.prog 97 #[ptr rb,.int .i64 dn.ino,.string n1] w1 fun e w2=>(∃ r,e=.returned r)/\RefAt6 hi w2 rb (mapS (mapS s (holdG kn.ino)) (unlinkG dn.ino kn.ino n1))/\Turns isR (.up hi) w0 w2:=by
 have hent:=find_mem (ht.sorted dn hdm) hh;rw [hfd] at hent;have hlk:1<=kn.links:=ht.entry hdm hent hkm rfl;have e0:=hold_is hf hkm
 have hf1:Wf (mapS s (holdG kn.ino)) (c+1):=by rw [<- e0];exact hf.more1 _ _
 have hd0:holdG kn.ino dn ∈ (mapS s (holdG kn.ino)).L:=List.mem_map_of_mem hdm;have hk0:holdG kn.ino kn ∈ (mapS s (holdG kn.ino)).L:=List.mem_map_of_mem hkm
 have e1:rdropP (mapS s (holdG kn.ino)) dn.ino n1 kn.ino=mapS (mapS s (holdG kn.ino)) (unlinkG dn.ino kn.ino n1):=by
  have:=rdrop_is hf1 hd0 hk0 hlk n1;have e5:(holdG kn.ino dn).ino=dn.ino:=rfl;have e6:(holdG kn.ino kn).ino=kn.ino:=rfl;rw [e5,e6] at this;rw [this]
  refine gc_id fun m hm => ?_
  obtain ⟨m1,hm1,rfl⟩:=List.mem_map.1 hm;obtain ⟨m0,hm0,rfl⟩:=List.mem_map.1 hm1;have:=hf.alive m0 hm0
  show 1<=(if m0.ino=kn.ino then m0.links - 1 else m0.links)+(if m0.ino=kn.ino then m0.holds+1 else m0.holds)
  split <;> omega
 have hf2:Wf (rdropP (mapS s (holdG kn.ino)) dn.ino n1 kn.ino) (c+3):=hf1.rdrop _ _ _;rw [e1] at hf2
 refine ⟨hf2,(rmoreH h hf (by omega) kn.ino).mono ?_⟩
 rintro e w1 ⟨rfl,h1,h2⟩;rw [e0] at h1;obtain ⟨i,hx⟩:=look_of hf1 hd0;obtain ⟨j,hy⟩:=look_of hf1 hk0;have hfd':find n1 (holdG kn.ino dn).ds=(kn.ino:Int):=hfd
 have hy':look (mapS s (holdG kn.ino)) (find n1 (holdG kn.ino dn).ds)=some (j,holdG kn.ino kn):=by rw [hfd'];exact hy
 have hRd:DRelE dn.ds dn.ds:=ht.rel hf hdm
 refine ⟨⟨_,rfl⟩,(rdrop7 h1 hf1 (by omega) hx hRd n1 hy').mono ?_⟩
 rintro e w2 ⟨rfl,h3,h4⟩
 rw [hfd',show (((holdG kn.ino dn).ino:Nat):Int)=(dn.ino:Int) from rfl,e1] at h3
 exact ⟨⟨_,rfl⟩,h3,(h0.trans h2).trans h4⟩
theorem ren_end_none (h:RefAt6 hi w rb s) (hf:Wf s c) (ht:Tree s) (hc:c<=800) (hdm:dn ∈ s.L) (hem:en ∈ s.L) (hkm:kn ∈ s.L) (hh:has n1 dn.ds=true) (hfd:find n1 dn.ds=(kn.ino:Int)) (hsz:n2.size<=10000) (h2:has n2 en.ds=false) (h0:Turns isR (.up hi) w0 w) :
 RenEnd hi rb (mapS (mapS s (unlinkG dn.ino kn.ino n1)) (linkG en.ino kn.ino n2)).gc w0 dn.ino n1 en.ino n2 kn.ino kn.kind false w:=by
 obtain ⟨hf1,hc1⟩:=ren_first_drop h hf ht hc hdm hkm hh hfd h0;have hlk:=hf.links kn hkm
 have hn:en.ino=dn.ino->n1 ≠ n2:=fun e e2=>by
  rw [<- e2,hf.one hem hdm e,hh] at h2;cases h2
 have hRe:DRelE en.ds en.ds:=ht.rel hf hem
 have hR:DRelE (unlinkG dn.ino kn.ino n1 (holdG kn.ino en)).ds (unlinkG dn.ino kn.ino n1 (holdG kn.ino en)).ds:=by
  show DRelE (if en.ino=dn.ino then remS n1 en.ds else en.ds) (if en.ino=dn.ino then remS n1 en.ds else en.ds)
  split
  . exact (hRe.rem (nm:=n1)).self
  . exact hRe
 unfold RenEnd;refine hc1.mono ?_;rintro e w1 ⟨h3,h4⟩
 refine ⟨h3,h4.mono ?_⟩
 rintro e w2 ⟨h5,h6,h7⟩
 refine ⟨h5,fun _ => ?_,fun h8=>by cases h8⟩
 have hent:=find_mem (ht.sorted dn hdm) hh;rw [hfd] at hent;have hlk1:1<=kn.links:=ht.entry hdm hent hkm rfl
 refine ren_tail (en:=unlinkG dn.ino kn.ino n1 (holdG kn.ino en)) (kn:=unlinkG dn.ino kn.ino n1 (holdG kn.ino kn)) h6 hf1 (by omega) (List.mem_map_of_mem (List.mem_map_of_mem hem)) (List.mem_map_of_mem (List.mem_map_of_mem hkm)) hR ?_ ?_ n2 hsz h7 ?_
 . show (if kn.ino=kn.ino then kn.links - 1 else kn.links) < 32
   rw [if_pos rfl];omega
 . show 1<=if kn.ino=kn.ino then kn.holds+1 else kn.holds
   rw [if_pos rfl];omega
 . rw [mapS_mapS,mapS_mapS,mapS_mapS,mapS_mapS]
   congr 1
   refine mapS_congr fun n _ => ?_
   show unholdG kn.ino (linkG en.ino kn.ino n2 (unlinkG dn.ino kn.ino n1 (holdG kn.ino n)))=linkG en.ino kn.ino n2 (unlinkG dn.ino kn.ino n1 n)
   unfold unholdG linkG unlinkG holdG
   by_cases e:n.ino=kn.ino <;> simp [e]
theorem ren_end_over (h:RefAt6 hi w rb s) (hf:Wf s c) (ht:Tree s) (hc:c<=800) (hdm:dn ∈ s.L) (hem:en ∈ s.L) (hkm:kn ∈ s.L) (hh:has n1 dn.ds=true) (hfd:find n1 dn.ds=(kn.ino:Int)) (hsz:n2.size<=10000) (hek:en.ino ≠ kn.ino)
 (h2:has n2 en.ds=true) (hwm:wn ∈ s.L) (hfw:find n2 en.ds=(wn.ino:Int)) (hkw:wn.ino ≠ kn.ino) (hwe:wn.ds=[]) (h0:Turns isR (.up hi) w0 w) :
 RenEnd hi rb (mapS (mapS (mapS s (unlinkG dn.ino kn.ino n1)) (unlinkG en.ino wn.ino n2)) (linkG en.ino kn.ino n2)).gc w0 dn.ino n1 en.ino n2 kn.ino kn.kind true w:=by
 obtain ⟨hf1,hc1⟩:=ren_first_drop h hf ht hc hdm hkm hh hfd h0;have hlk:=hf.links kn hkm
 have hn:en.ino=dn.ino->n1 ≠ n2:=fun e e2=>by
  rw [<- e2,hf.one hem hdm e,hfd] at hfw;omega
 obtain ⟨f1,f2,_⟩:=ren_first ht hdm hem hf hh hn kn.ino
 have hew:en.ino ≠ wn.ino:=fun e=>by
  rw [hf.one hem hwm e,hwe] at h2;cases h2
 have hRe:DRelE en.ds en.ds:=ht.rel hf hem
 have hR:DRelE (unlinkG dn.ino kn.ino n1 (holdG kn.ino en)).ds (unlinkG dn.ino kn.ino n1 (holdG kn.ino en)).ds:=by
  show DRelE (if en.ino=dn.ino then remS n1 en.ds else en.ds) (if en.ino=dn.ino then remS n1 en.ds else en.ds)
  split
  . exact (hRe.rem (nm:=n1)).self
  . exact hRe
 have hR2:DRelE (unlinkG en.ino wn.ino n2 (unlinkG dn.ino kn.ino n1 (holdG kn.ino en))).ds (unlinkG en.ino wn.ino n2 (unlinkG dn.ino kn.ino n1 (holdG kn.ino en))).ds:=by
  have e:(unlinkG en.ino wn.ino n2 (unlinkG dn.ino kn.ino n1 (holdG kn.ino en))).ds=remS n2 (unlinkG dn.ino kn.ino n1 (holdG kn.ino en)).ds:=if_pos rfl;rw [e]
  exact (hR.rem (nm:=n2)).self
 have hent3:=find_mem (ht.sorted en hem) h2;rw [hfw] at hent3;have hlw:1<=wn.links:=ht.entry hem hent3 hwm rfl;have he1:unlinkG dn.ino kn.ino n1 (holdG kn.ino en) ∈ (mapS (mapS s (holdG kn.ino)) (unlinkG dn.ino kn.ino n1)).L:=List.mem_map_of_mem (List.mem_map_of_mem hem);have hw1:unlinkG dn.ino kn.ino n1 (holdG kn.ino wn) ∈ (mapS (mapS s (holdG kn.ino)) (unlinkG dn.ino kn.ino n1)).L:=List.mem_map_of_mem (List.mem_map_of_mem hwm);have hk1:unlinkG dn.ino kn.ino n1 (holdG kn.ino kn) ∈ (mapS (mapS s (holdG kn.ino)) (unlinkG dn.ino kn.ino n1)).L:=List.mem_map_of_mem (List.mem_map_of_mem hkm)
 have hlw1:(unlinkG dn.ino kn.ino n1 (holdG kn.ino wn)).links=wn.links:=if_neg hkw
 have e2:rdropP (mapS (mapS s (holdG kn.ino)) (unlinkG dn.ino kn.ino n1)) en.ino n2 wn.ino=(mapS (mapS (mapS s (holdG kn.ino)) (unlinkG dn.ino kn.ino n1)) (unlinkG en.ino wn.ino n2)).gc:=rdrop_is hf1 he1 hw1 (by rw [hlw1];exact hlw) n2
 have hf2:Wf (rdropP (mapS (mapS s (holdG kn.ino)) (unlinkG dn.ino kn.ino n1)) en.ino n2 wn.ino) (c+5):=hf1.rdrop _ _ _;rw [e2] at hf2
 have hee:unlinkG en.ino wn.ino n2 (unlinkG dn.ino kn.ino n1 (holdG kn.ino en)) ∈ (mapS (mapS (mapS s (holdG kn.ino)) (unlinkG dn.ino kn.ino n1)) (unlinkG en.ino wn.ino n2)).gc.L:=by
  refine gc_mem (List.mem_map_of_mem he1) ?_
  have e5:(unlinkG en.ino wn.ino n2 (unlinkG dn.ino kn.ino n1 (holdG kn.ino en))).links=en.links:=(if_neg hew).trans (if_neg hek);have e6:(unlinkG en.ino wn.ino n2 (unlinkG dn.ino kn.ino n1 (holdG kn.ino en))).holds=en.holds:=if_neg hek;have:=hf.alive en hem
  omega
 have hke:unlinkG en.ino wn.ino n2 (unlinkG dn.ino kn.ino n1 (holdG kn.ino kn)) ∈ (mapS (mapS (mapS s (holdG kn.ino)) (unlinkG dn.ino kn.ino n1)) (unlinkG en.ino wn.ino n2)).gc.L:=by
  refine gc_mem (List.mem_map_of_mem hk1) ?_
  have e6:(unlinkG en.ino wn.ino n2 (unlinkG dn.ino kn.ino n1 (holdG kn.ino kn))).holds=kn.holds+1:=if_pos rfl
  omega
 unfold RenEnd;refine hc1.mono ?_;rintro e w1 ⟨h3,h4⟩
 refine ⟨h3,h4.mono ?_⟩
 rintro e w2 ⟨h5,h6,h7⟩
 refine ⟨h5,fun h8=>(by cases h8),fun _ => ?_⟩
 obtain ⟨i,hx⟩:=look_of hf1 he1;obtain ⟨j,hy⟩:=look_of hf1 hw1;have hfw':find n2 (unlinkG dn.ino kn.ino n1 (holdG kn.ino en)).ds=(wn.ino:Int):=f2.trans hfw
 have hy':look (mapS (mapS s (holdG kn.ino)) (unlinkG dn.ino kn.ino n1)) (find n2 (unlinkG dn.ino kn.ino n1 (holdG kn.ino en)).ds)=some (j,unlinkG dn.ino kn.ino n1 (holdG kn.ino wn)):=by rw [hfw'];exact hy
 refine (rdrop7 h6 hf1 (by omega) hx hR n2 hy').mono ?_
 rintro e w3 ⟨rfl,h8,h9⟩
 rw [hfw',show (((unlinkG dn.ino kn.ino n1 (holdG kn.ino en)).ino:Nat):Int)=(en.ino:Int) from rfl,e2] at h8
 refine ⟨⟨_,rfl⟩,ren_tail (en:=unlinkG en.ino wn.ino n2 (unlinkG dn.ino kn.ino n1 (holdG kn.ino en))) (kn:=unlinkG en.ino wn.ino n2 (unlinkG dn.ino kn.ino n1 (holdG kn.ino kn))) h8 hf2 (by omega) hee hke hR2 ?_ ?_ n2 hsz (h7.trans h9) ?_⟩
 . have e5:(unlinkG en.ino wn.ino n2 (unlinkG dn.ino kn.ino n1 (holdG kn.ino kn))).links=kn.links - 1:=(if_neg fun h7=>hkw h7.symm).trans (if_pos rfl)
   have hent:=find_mem (ht.sorted dn hdm) hh;rw [hfd] at hent;have hlk1:1<=kn.links:=ht.entry hdm hent hkm rfl
   omega
 . have e6:(unlinkG en.ino wn.ino n2 (unlinkG dn.ino kn.ino n1 (holdG kn.ino kn))).holds=kn.holds+1:=if_pos rfl
   omega
 . rw [mapS_mapS,gc_map]
   . rw [mapS_mapS,mapS_mapS,mapS_mapS,mapS_mapS,mapS_mapS]
     congr 1
     refine mapS_congr fun n _ => ?_
     show unholdG kn.ino (linkG en.ino kn.ino n2 (unlinkG en.ino wn.ino n2 (unlinkG dn.ino kn.ino n1 (holdG kn.ino n))))=linkG en.ino kn.ino n2 (unlinkG en.ino wn.ino n2 (unlinkG dn.ino kn.ino n1 n))
     unfold unholdG linkG unlinkG holdG
     by_cases e:n.ino=kn.ino <;> simp [e]
   . intro m hm hd
     obtain ⟨m2,hm2,rfl⟩:=List.mem_map.1 hm;obtain ⟨m1,hm1,rfl⟩:=List.mem_map.1 hm2;obtain ⟨m0,hm0,rfl⟩:=List.mem_map.1 hm1
     have hd':(unlinkG en.ino wn.ino n2 (unlinkG dn.ino kn.ino n1 (holdG kn.ino m0))).links+(unlinkG en.ino wn.ino n2 (unlinkG dn.ino kn.ino n1 (holdG kn.ino m0))).holds=0:=by simpa [Nd.dead] using hd
     have e:m0.ino ≠ kn.ino:=fun e=>by
      have:(unlinkG en.ino wn.ino n2 (unlinkG dn.ino kn.ino n1 (holdG kn.ino m0))).holds=m0.holds+1:=if_pos e
      omega
     show (unholdG kn.ino (linkG en.ino kn.ino n2 (unlinkG en.ino wn.ino n2 (unlinkG dn.ino kn.ino n1 (holdG kn.ino m0))))).dead=true
     have e7:(unholdG kn.ino (linkG en.ino kn.ino n2 (unlinkG en.ino wn.ino n2 (unlinkG dn.ino kn.ino n1 (holdG kn.ino m0))))).links=(unlinkG en.ino wn.ino n2 (unlinkG dn.ino kn.ino n1 (holdG kn.ino m0))).links:=if_neg e;have e8:(unholdG kn.ino (linkG en.ino kn.ino n2 (unlinkG en.ino wn.ino n2 (unlinkG dn.ino kn.ino n1 (holdG kn.ino m0))))).holds=(unlinkG en.ino wn.ino n2 (unlinkG dn.ino kn.ino n1 (holdG kn.ino m0))).holds:=if_neg e;unfold Nd.dead;rw [e7,e8,hd'];rfl
end
end Go.Proofs.YthlaoaaafafafaaGreat
