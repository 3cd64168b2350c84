package grow

import (
	"testing"

	"quilt/api"
	"quilt/chance"
)

// just is a store in which a sheet's square is, with room for so many more, and that square.
func just(t *testing.T, p sheet, more int) (store, int) {
	t.Helper()
	most := storeOf(t, 65536)
	most.lay(p)
	s := storeOf(t, most.Len()+more)
	return s, s.lay(p)
}

// full asks that a store has no room left.
func (s store) full(what string) {
	s.t.Helper()
	n := s.Len()
	got, err := s.Leaf(0x123456789abcdef)
	fails(s.t, what, got, err, api.ErrLimit)
	if s.Len() != n {
		s.t.Fatalf("%s: %d squares, and there were %d", what, s.Len(), n)
	}
}

// GW1: a middle that is not there needs room for one square.
func TestCenterLimit(t *testing.T) {
	c := chance.Chance(15)
	for level := 4; level <= 7; level++ {
		p := anySheet(&c, 1<<level)
		s, id := just(t, p, 0)
		before := s.tells()
		for range 2 {
			got, err := s.grower(life).Center(id)
			fails(t, "Center without room", got, err, api.ErrLimit)
			s.stays("Center without room", before)
		}
		s, id = just(t, p, 1)
		g := s.grower(life)
		for range 2 {
			got, err := g.Center(id)
			s.isSheet("Center with just enough room", got, err, p.cut(p.width/4, p.width/2))
		}
		s.keeps("Center", before)
		s.full("behind Center with just enough room")
	}
}

// GW1: a middle that is there needs none, at each level.
func TestCenterFull(t *testing.T) {
	for level := 4; level <= 40; level++ {
		s := storeOf(t, level-2)
		must(t)(s.Empty(level))
		if got, err := s.grower(life).Center(level - 2); got != level-3 || err != nil {
			t.Errorf("Center in a full store: %d, %v, want %d", got, err, level-3)
		}
	}
}

// has is how many different squares one has, itself among them.
func (s store) has(id int) int {
	s.t.Helper()
	seen := map[int]bool{}
	var see func(id int)
	see = func(id int) {
		if seen[id] {
			return
		}
		seen[id] = true
		if s.level(id) > 3 {
			kids, _ := s.Kids(id)
			for _, kid := range kids {
				see(kid)
			}
		}
	}
	see(id)
	return len(seen)
}

// wideNeeds is how many squares Wide of a sheet's has that were not there.
func wideNeeds(t *testing.T, p sheet) int {
	t.Helper()
	s, id := just(t, p, 1000)
	n := s.Len()
	wide := must(t)(s.grower(life).Wide(id))
	bare := storeOf(t, 65536)
	bare.lay(p)
	if want := bare.lay(s.sheet(wide)); bare.has(want) != s.has(wide) {
		t.Fatalf("Wide has %d squares, want %d", s.has(wide), bare.has(want))
	}
	return bare.Len() - n
}

// GW1: a wide square needs room for all that it has and that is not there.
func TestWideLimit(t *testing.T) {
	c := chance.Chance(16)
	for i := range 20 {
		p := anySheet(&c, 8<<(i%4))
		needs := wideNeeds(t, p)
		if needs < 2 {
			t.Fatalf("Wide needs %d squares", needs)
		}
		for more := range needs {
			s, id := just(t, p, more)
			before := s.tells()
			g := s.grower(life)
			for range 2 {
				got, err := g.Wide(id)
				fails(t, "Wide without room", got, err, api.ErrLimit)
				s.keeps("Wide without room", before)
			}
		}
		s, id := just(t, p, needs)
		got, err := s.grower(life).Wide(id)
		s.isSheet("Wide with just enough room", got, err, p.cut(-p.width/2, 2*p.width))
		s.full("behind Wide with just enough room")
		if again, err := s.grower(life).Wide(id); again != got || err != nil {
			t.Fatalf("Wide in a full store: %d, %v, want %d", again, err, got)
		}
	}
}

// GW1: level 40 is told of, full store or not; of level 39 it is the room.
func TestWideLevelsFull(t *testing.T) {
	s := storeOf(t, 38)
	must(t)(s.Empty(40))
	g := s.grower(life)
	got, err := g.Wide(38)
	fails(t, "Wide of level 40", got, err, api.ErrLimit)
	if got, err := g.Wide(37); got != 38 || err != nil {
		t.Errorf("Wide of level 39 without cells: %d, %v", got, err)
	}
	s = storeOf(t, 37)
	must(t)(s.Empty(39))
	before := s.tells()
	got, err = s.grower(life).Wide(37)
	fails(t, "Wide of level 39 without room", got, err, api.ErrLimit)
	s.stays("Wide of level 39 without room", before)
}

// GW2: of level 4 it needs room for one square, if that is not there.
func TestGrowTileLimit(t *testing.T) {
	p := anySheet(new(chance.Chance), 16)
	for j := range 3 {
		s, id := just(t, p, 0)
		before := s.tells()
		g := s.grower(life)
		for range 2 {
			got, err := g.Grow(id, j)
			fails(t, "Grow without room", got, err, api.ErrLimit)
			s.stays("Grow without room", before)
			if g.Known() != 0 {
				t.Errorf("Known behind what had no room: %d", g.Known())
			}
		}
		s, id = just(t, p, 1)
		g = s.grower(life)
		got := must(t)(g.Grow(id, j))
		s.keeps("Grow with just enough room", before)
		s.full("behind Grow with just enough room")
		for _, other := range []*Grower{g, s.grower(life)} {
			if again, err := other.Grow(id, j); again != got || err != nil {
				t.Errorf("Grow in a full store: %d, %v, want %d", again, err, got)
			}
		}
	}
}

// GW2: with less room and less: it answers, and rightly, or tells that there is none; what was there stays, and so does what was answered.
func TestGrowLimit(t *testing.T) {
	c := chance.Chance(17)
	for i := range 9 {
		level := 5 + i%3
		p := anySheet(&c, 1<<level)
		for j := range level - 1 {
			on := p
			for range 1 << j {
				on = on.next(life)
			}
			want := on.cut(p.width/4, p.width/2)
			answered := false
			for more := 0; !answered; more += 1 + more/3 {
				answered = growWithin(t, p, j, more, want)
				if more == 0 && answered {
					t.Fatal("Grow makes nothing, and answers")
				}
				if more > 65000 {
					t.Fatal("Grow has never room enough")
				}
			}
		}
	}
}

// growWithin asks Grow with room for so many more, and tells whether it answered.
func growWithin(t *testing.T, p sheet, j, more int, want sheet) bool {
	t.Helper()
	s, id := just(t, p, more)
	before := s.tells()
	g := s.grower(life)
	got, err := g.Grow(id, j)
	s.keeps("Grow with little room", before)
	if err == nil {
		s.isSheet("Grow with little room", got, err, want)
		if again, err := g.Grow(id, j); again != got || err != nil {
			t.Fatalf("Grow, asked twice: %d, %v, and was %d", again, err, got)
		}
		return true
	}
	fails(t, "Grow with little room", got, err, api.ErrLimit)
	s.full("behind Grow that had no room")
	then, known := s.tells(), g.Known()
	if known > s.canBeKnown() {
		t.Fatalf("Known: %d, of %d that can be", known, s.canBeKnown())
	}
	for range 2 {
		got, err = g.Grow(id, j)
		fails(t, "Grow without room, asked again", got, err, api.ErrLimit)
		s.stays("Grow without room, asked again", then)
	}
	return false
}

// GW2: behind an ErrLimit what was answered before is answered still, and nothing is made for it.
func TestBehindLimit(t *testing.T) {
	c := chance.Chance(18)
	for range 5 {
		p := anySheet(&c, 64)
		on := p
		for range 4 {
			on = on.next(life)
		}
		want := newSheet(16)
		for i := range want.lives {
			want.lives[i] = on.has(40+i%16, 8+i/16)
		}
		// With much room first: so many squares come of a part, and so many of all.
		s, id := just(t, p, 10000)
		g := s.grower(life)
		before := s.Len()
		kids, _ := s.Kids(id)
		must(t)(g.Grow(kids[1], 2))
		ofPart := s.Len() - before
		must(t)(g.Grow(id, 4))
		ofAll := s.Len() - before
		for _, more := range []int{ofPart, (ofPart + ofAll) / 2, ofAll - 1} {
			s, id := just(t, p, more)
			g := s.grower(life)
			part := must(t)(g.Grow(kids[1], 2))
			got, err := g.Grow(id, 4)
			fails(t, "Grow with little room", got, err, api.ErrLimit)
			s.full("behind Grow that had no room")
			if known := g.Known(); known < 1 || known > s.canBeKnown() {
				t.Errorf("Known behind an answer, and an error: %d", known)
			}
			for range 2 {
				if again, err := g.Grow(kids[1], 2); again != part || err != nil {
					t.Errorf("Grow in a full store: %d, %v, and was %d", again, err, part)
				}
			}
			s.isSheet("what was answered before", part, nil, want)
		}
	}
}

// GW2: nothing of nothing needs no room, and a block that stays needs none if its middle is there.
func TestGrowFull(t *testing.T) {
	s := storeOf(t, 7)
	must(t)(s.Empty(5))
	one := must(t)(s.Leaf(0x1818000000))
	four := must(t)(s.Node([4]int{1, 1, 1, 1}))
	id := must(t)(s.Node([4]int{one, one, one, one}))
	must(t)(s.Leaf(0x8100000000000081))
	must(t)(s.Leaf(7))
	s.full("behind the last one")
	g := s.grower(life)
	for j := range 3 {
		if got, err := g.Grow(four, j); got != 1 || err != nil {
			t.Errorf("Grow of nothing in a full store: %d, %v", got, err)
		}
		if got, err := g.Grow(id, j); got != 6 || err != nil {
			t.Errorf("Grow of blocks in a full store: %d, %v, want 6", got, err)
		}
	}
}
