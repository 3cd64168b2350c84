package quad

import (
	"math"
	"slices"
	"testing"

	"quilt/api"
	"quilt/chance"
	"quilt/tile"
)

// fourOf are four times one number.
func fourOf(id int) [4]int { return [4]int{id, id, id, id} }

// QD1: the rooms that can be, and those that can't; a new store is without squares, and has so much room.
func TestNew(t *testing.T) {
	for _, room := range []int{0, 65537, -1, -65536, 65538, 1 << 17, 1 << 32, 1<<32 + 1, -1<<32 + 1, math.MaxInt, math.MinInt, math.MinInt + 1} {
		s, err := New(room)
		fails(t, "New", s, err, api.ErrArg)
	}
	for _, room := range []int{1, 2, 3, 100, 255, 256, 65535, 65536} {
		s := made(t, room)
		tellIs(t, s, newModel(room))
		for i := range room {
			if got, err := s.Leaf(tile.Tile(i * 5)); got != i+1 || err != nil {
				t.Fatalf("the Leaf %d of a store for %d: %d, %v", i+1, room, got, err)
			}
		}
		if s.Len() != room {
			t.Errorf("Len of a full store: %d, want %d", s.Len(), room)
		}
		got, err := s.Leaf(1)
		fails(t, "one Leaf more than there is room for", got, err, api.ErrLimit)
		got, err = s.Node(fourOf(1))
		fails(t, "a Node more than there is room for", got, err, api.ErrLimit)
		if got, err := s.Leaf(tile.Tile(room-1) * 5); got != room || err != nil || s.Len() != room {
			t.Errorf("the last Leaf of a full store, again: %d, %v", got, err)
		}
	}
}

// QD1: two stores do not know of each other, made with the same room or not.
func TestStoresApart(t *testing.T) {
	first, second := made(t, 3), made(t, 3)
	for i := range 3 {
		must(t)(first.Leaf(tile.Tile(i)))
	}
	if second.Len() != 0 {
		t.Errorf("Len of a store in which nothing is: %d", second.Len())
	}
	got, err := second.Tile(1)
	fails(t, "Tile of another store's square", got, err, api.ErrNone)
	if got, err := second.Leaf(2); got != 1 || err != nil {
		t.Errorf("the first Leaf: %d, %v", got, err)
	}
}

// QD1, QD2: tiles as squares: of 0, of all cells, of each cell alone; each twice; in the order in which they come.
func TestLeaf(t *testing.T) {
	s := made(t, 100)
	tiles := []tile.Tile{0, allLive}
	for i := range 64 {
		tiles = append(tiles, 1<<i)
	}
	tiles = append(tiles, allLive-1, 1<<32+1, 3)
	for again := range 3 {
		for i, want := range tiles {
			if got, err := s.Leaf(want); got != i+1 || err != nil {
				t.Fatalf("Leaf(%x), asked %d times before: %d, %v, want %d", want, again, got, err, i+1)
			}
			if again > 0 {
				continue
			}
			if s.Len() != i+1 {
				t.Fatalf("Len of %d squares: %d", i+1, s.Len())
			}
			if got, want := tellsOf(t, s, i+1), (told{level: 3, count: tile.Count(want), tile: want}); got != want {
				t.Fatalf("the square %d: %+v, want %+v", i+1, got, want)
			}
		}
	}
}

// QD1, QD2: any four of four tiles, in the order in which they come; and the same four again.
func TestNode(t *testing.T) {
	s := made(t, 260)
	for _, leaf := range []tile.Tile{1, 3, 7, 0xff} {
		must(t)(s.Leaf(leaf))
	}
	for again := range 2 {
		for i := range 256 {
			k := [4]int{i/64 + 1, i/16%4 + 1, i/4%4 + 1, i%4 + 1}
			got, err := s.Node(k)
			if got != i+5 || err != nil {
				t.Fatalf("Node(%v), asked %d times before: %d, %v, want %d", k, again, got, err, i+5)
			}
			count := 0
			for _, kid := range k {
				count += []int{1, 2, 3, 8}[kid-1]
			}
			if got, want := tellsOf(t, s, got), (told{level: 4, count: count, kids: k}); got != want {
				t.Fatalf("Node(%v): %+v, want %+v", k, got, want)
			}
		}
	}
	if s.Len() != 260 {
		t.Errorf("Len: %d", s.Len())
	}
}

// QD1: each order of four different ones is a square of its own, once.
func TestNodeOrders(t *testing.T) {
	s := made(t, 28)
	for i := range 4 {
		must(t)(s.Leaf(1 << i))
	}
	seen := map[int][4]int{}
	for range 3 {
		for i := range 256 {
			k := [4]int{i/64 + 1, i/16%4 + 1, i/4%4 + 1, i%4 + 1}
			sorted := k
			if slices.Sort(sorted[:]); sorted != [4]int{1, 2, 3, 4} {
				continue
			}
			got := must(t)(s.Node(k))
			if before, there := seen[got]; there && before != k {
				t.Fatalf("%v and %v are both %d", before, k, got)
			}
			seen[got] = k
			if kids, err := s.Kids(got); kids != k || err != nil {
				t.Fatalf("Kids of Node(%v): %v, %v", k, kids, err)
			}
		}
	}
	if len(seen) != 24 || s.Len() != 28 {
		t.Errorf("%d orders, %d squares", len(seen), s.Len())
	}
}

// QD1: four of which one is not there, of not one level, or both, be the store full or not: what is not there is told first.
func TestNodeWrong(t *testing.T) {
	for _, room := range []int{100, 6} {
		s := made(t, room)
		zero, one, two := must(t)(s.Leaf(0)), must(t)(s.Leaf(1)), must(t)(s.Leaf(2))
		wide := must(t)(s.Node([4]int{one, two, one, two}))
		wider := must(t)(s.Node(fourOf(wide)))
		other := must(t)(s.Node(fourOf(zero)))
		before := tells(t, s)
		for _, good := range [][4]int{fourOf(one), {one, two, one, zero}, fourOf(wide), {wide, wide, other, wide}, fourOf(wider)} {
			for i := range 4 {
				for _, away := range notThere(s.Len()) {
					k := good
					k[i] = away
					got, err := s.Node(k)
					fails(t, "Node with one that is not there", got, err, api.ErrNone)
					k[(i+1)%4] = wide
					k[(i+2)%4] = one
					got, err = s.Node(k)
					fails(t, "Node with one that is not there, of two levels", got, err, api.ErrNone)
					k[(i+1)%4] = 0
					got, err = s.Node(k)
					fails(t, "Node with two that are not there", got, err, api.ErrNone)
				}
			}
		}
		for i := range 4 {
			for _, two := range [][2]int{{one, wide}, {wide, one}, {wide, wider}, {wider, other}, {zero, wider}, {wider, zero}} {
				k := fourOf(two[0])
				k[i] = two[1]
				got, err := s.Node(k)
				fails(t, "Node of two levels", got, err, api.ErrArg)
			}
		}
		got, err := s.Node([4]int{one, wide, one, wide})
		fails(t, "Node of two levels", got, err, api.ErrArg)
		got, err = s.Node([4]int{one, wide, wider, one})
		fails(t, "Node of three levels", got, err, api.ErrArg)
		for _, away := range notThere(s.Len()) {
			got, err := s.Node(fourOf(away))
			fails(t, "Node of none", got, err, api.ErrNone)
		}
		stays(t, "behind Node of what can't be", s, before)
	}
}

// QD1: four of level 40, and some of them with others, or one that is not there; four of level 39 are one of level 40.
func TestNodeWidest(t *testing.T) {
	for _, room := range []int{100, 40} {
		s := made(t, room)
		empty := must(t)(s.Empty(40))
		narrower, one := must(t)(s.Empty(39)), must(t)(s.Leaf(1))
		other := must(t)(s.Node([4]int{narrower, narrower, narrower, narrower}))
		if other != empty {
			t.Errorf("Node of four of level 39: %d, want %d", other, empty)
		}
		if room == 100 {
			other = must(t)(s.Set(empty, 5, 5, true))
		}
		before := tells(t, s)
		for i := range 4 {
			k := fourOf(empty)
			k[i] = other
			got, err := s.Node(k)
			fails(t, "Node of four of level 40", got, err, api.ErrLimit)
			for _, id := range []int{narrower, one} {
				k[i] = id
				got, err = s.Node(k)
				fails(t, "Node of three of level 40, and another", got, err, api.ErrArg)
			}
			k[i] = 0
			got, err = s.Node(k)
			fails(t, "Node of three of level 40, and none", got, err, api.ErrNone)
			k[(i+1)%4] = one
			got, err = s.Node(k)
			fails(t, "Node of two of level 40, another and none", got, err, api.ErrNone)
		}
		stays(t, "behind Node of level 40", s, before)
	}
}

// QD1: a store that is just full: what is there is answered, what is not is not made; with room for one more it is.
func TestFull(t *testing.T) {
	for _, room := range []int{5, 6, 7} {
		s := made(t, room)
		one, two := must(t)(s.Leaf(1)), must(t)(s.Leaf(2))
		wide := must(t)(s.Node([4]int{one, one, two, one}))
		wider := must(t)(s.Node(fourOf(wide)))
		must(t)(s.Leaf(0))
		before := tells(t, s)
		for again := range 3 {
			for i, ask := range []func() (int, error){
				func() (int, error) { return s.Leaf(1) },
				func() (int, error) { return s.Leaf(2) },
				func() (int, error) { return s.Node([4]int{one, one, two, one}) },
				func() (int, error) { return s.Node(fourOf(wide)) },
				func() (int, error) { return s.Leaf(0) },
				func() (int, error) { return s.Node([4]int{one, one, one, two}) },
				func() (int, error) { return s.Leaf(3) },
			} {
				if got, err := ask(); i < room && (got != i+1 || err != nil) {
					t.Fatalf("the square %d, asked %d times before: %d, %v", i+1, again, got, err)
				} else if i >= room {
					fails(t, "more than there is room for", got, err, api.ErrLimit)
				}
			}
		}
		if got := tells(t, s); len(got) != room || !slices.Equal(got[:5], before) {
			t.Errorf("the squares of a full store: %+v", got)
		}
		got, err := s.Node(fourOf(wider))
		fails(t, "Node, of a full store", got, err, api.ErrLimit)
	}
}

// QD2: squares that are not there, in stores with none, one and some.
func TestNone(t *testing.T) {
	for _, n := range []int{0, 1, 2, 5, 38} {
		s := made(t, 100)
		if n == 38 {
			must(t)(s.Empty(40))
		} else {
			for i := range n {
				must(t)(s.Leaf(tile.Tile(i)))
			}
		}
		before := tells(t, s)
		for _, away := range notThere(n) {
			level, err := s.Level(away)
			fails(t, "Level of none", level, err, api.ErrNone)
			tile, err := s.Tile(away)
			fails(t, "Tile of none", tile, err, api.ErrNone)
			kids, err := s.Kids(away)
			fails(t, "Kids of none", kids, err, api.ErrNone)
			count, err := s.Count(away)
			fails(t, "Count of none", count, err, api.ErrNone)
			for _, x := range []int{0, 7, -1, 1 << 41, math.MinInt, math.MaxInt} {
				lives, err := s.Get(away, x, 0)
				fails(t, "Get of none", lives, err, api.ErrNone)
				id, err := s.Set(away, 0, x, x > 0)
				fails(t, "Set of none", id, err, api.ErrNone)
			}
		}
		stays(t, "behind calls for squares that are not there", s, before)
	}
}

// QD2: Tile of squares of each level, and Kids.
func TestTileKids(t *testing.T) {
	s := made(t, 200)
	id, want := must(t)(s.Leaf(0x0123456789abcdef)), [4]int{}
	for level := 3; level <= 40; level++ {
		got, err := s.Tile(id)
		if level == 3 && (got != 0x0123456789abcdef || err != nil) {
			t.Errorf("Tile: %x, %v", got, err)
		} else if level > 3 {
			fails(t, "Tile of four", got, err, api.ErrArg)
		}
		kids, err := s.Kids(id)
		if level > 3 && (kids != want || err != nil) {
			t.Errorf("Kids of level %d: %v, %v, want %v", level, kids, err, want)
		} else if level == 3 {
			fails(t, "Kids of a tile", kids, err, api.ErrArg)
		}
		if got, err := s.Level(id); got != level || err != nil {
			t.Errorf("Level: %d, %v, want %d", got, err, level)
		}
		if level < 40 {
			empty := must(t)(s.Empty(level))
			want = [4]int{empty, id, empty, empty}
			id = must(t)(s.Node(want))
		}
	}
}

// QD2: none, one and all cells, of each level.
func TestCountLevels(t *testing.T) {
	s := made(t, 300)
	none, one, all := must(t)(s.Leaf(0)), must(t)(s.Leaf(1<<17)), must(t)(s.Leaf(allLive))
	for level := 3; level <= 40; level++ {
		for _, k := range []struct{ id, want int }{{none, 0}, {one, 1}, {all, 1 << min(2*level, 62)}} {
			if got, err := s.Count(k.id); got != k.want || err != nil {
				t.Errorf("Count of level %d: %d, %v, want %d", level, got, err, k.want)
			}
		}
		if level == 40 {
			break
		}
		k := fourOf(none)
		k[level%4] = one
		none, one, all = must(t)(s.Node(fourOf(none))), must(t)(s.Node(k)), must(t)(s.Node(fourOf(all)))
	}
}

// QD2: four squares with different numbers of cells, at each place.
func TestCountFour(t *testing.T) {
	s := made(t, 400)
	counts := []int{0, 1, 5, 64}
	for i := range 256 {
		var k [4]int
		want := 0
		for j := range k {
			n := counts[i>>(2*j)%4]
			k[j] = must(t)(s.Leaf(tile.Tile(1<<n - 1)))
			want += n
		}
		if got, err := s.Count(must(t)(s.Node(k))); got != want || err != nil {
			t.Errorf("Count of %v: %d, %v, want %d", k, got, err, want)
		}
	}
}

// QD2: about 2^62 cells, of squares some of which have as many each: 2^62 is the most.
func TestCountMost(t *testing.T) {
	const most = 1 << 62
	s := made(t, 1000)
	full := map[int]int{3: must(t)(s.Leaf(allLive))}
	for level := 4; level <= 40; level++ {
		full[level] = must(t)(s.Node(fourOf(full[level-1])))
	}
	less := must(t)(s.Set(full[31], 1<<31-1, 0, false)) // 2^62 but one
	one := must(t)(s.Set(must(t)(s.Empty(31)), 0, 1<<31-1, true))
	two := must(t)(s.Set(one, 77, 78, true))
	quarter := must(t)(s.Node([4]int{must(t)(s.Empty(30)), full[30], must(t)(s.Empty(30)), must(t)(s.Empty(30))}))
	half := must(t)(s.Node([4]int{full[30], full[30], must(t)(s.Empty(30)), must(t)(s.Empty(30))}))
	none := must(t)(s.Empty(31))
	for _, k := range []struct {
		four [4]int
		want int
	}{
		{fourOf(none), 0},
		{[4]int{none, one, none, two}, 3},
		{[4]int{less, none, none, none}, most - 1},
		{[4]int{none, less, one, none}, most},
		{[4]int{two, less, none, none}, most},
		{[4]int{less, one, one, one}, most},
		{[4]int{full[31], none, none, none}, most},
		{[4]int{none, none, full[31], one}, most},
		{[4]int{full[31], less, none, none}, most},
		{[4]int{full[31], full[31], none, none}, most},
		{[4]int{full[31], full[31], full[31], none}, most},
		{fourOf(full[31]), most},
		{fourOf(less), most},
		{fourOf(half), most},
		{fourOf(quarter), most},
		{[4]int{quarter, quarter, quarter, none}, most / 4 * 3},
		{[4]int{quarter, quarter, one, quarter}, most/4*3 + 1},
		{[4]int{half, quarter, none, two}, most/4*3 + 2},
		{[4]int{half, none, none, half}, most},
		{[4]int{half, half, half, one}, most},
	} {
		id := must(t)(s.Node(k.four))
		if got, err := s.Count(id); got != k.want || err != nil {
			t.Errorf("Count of %v: %d, %v, want %d", k.four, got, err, k.want)
		}
		// What is full of such squares has more, but is not told to; with one of them it has as many.
		empty := must(t)(s.Empty(32))
		if got, err := s.Count(must(t)(s.Node([4]int{empty, empty, id, empty}))); got != k.want || err != nil {
			t.Errorf("Count of one of %v: %d, %v, want %d", k.four, got, err, k.want)
		}
		if got, err := s.Count(must(t)(s.Node(fourOf(id)))); got != min(k.want, most/4)*4 || err != nil {
			t.Errorf("Count of four of %v: %d, %v", k.four, got, err)
		}
	}
}

// nilCalls are all calls of a nil store, each asked whether it answers a nought and ErrArg.
func nilCalls(t *testing.T, s *Store, n int) {
	t.Helper()
	id, err := s.Leaf(tile.Tile(n))
	fails(t, "Leaf", id, err, api.ErrArg)
	id, err = s.Node(fourOf(n))
	fails(t, "Node", id, err, api.ErrArg)
	level, err := s.Level(n)
	fails(t, "Level", level, err, api.ErrArg)
	leaf, err := s.Tile(n)
	fails(t, "Tile", leaf, err, api.ErrArg)
	kids, err := s.Kids(n)
	fails(t, "Kids", kids, err, api.ErrArg)
	count, err := s.Count(n)
	fails(t, "Count", count, err, api.ErrArg)
	id, err = s.Empty(n)
	fails(t, "Empty", id, err, api.ErrArg)
	lives, err := s.Get(n, n, n)
	fails(t, "Get", lives, err, api.ErrArg)
	id, err = s.Set(n, n, n, n > 0)
	fails(t, "Set", id, err, api.ErrArg)
	if got := s.Len(); got != 0 {
		t.Errorf("Len of nil: %d", got)
	}
}

// A nil store, asked for what may be, and for what may not.
func TestNil(t *testing.T) {
	for _, n := range []int{0, 1, -1, 2, 3, 4, 40, 41, math.MinInt, math.MaxInt} {
		nilCalls(t, nil, n)
	}
}

// Rule 3: the four numbers are not changed; those that were answered may be, and nothing is felt.
func TestArgumentsStay(t *testing.T) {
	s := made(t, 100)
	k := [4]int{must(t)(s.Leaf(1)), must(t)(s.Leaf(2)), must(t)(s.Leaf(3)), must(t)(s.Leaf(4))}
	given := k
	id := must(t)(s.Node(given))
	if given != k {
		t.Errorf("the four numbers are changed: %v", given)
	}
	given[0] = 4
	kids, err := s.Kids(id)
	if kids != k || err != nil {
		t.Errorf("Kids behind what was handed in is another: %v, %v", kids, err)
	}
	kids[1] = 1
	if again, err := s.Kids(id); again != k || err != nil {
		t.Errorf("Kids behind what was answered is another: %v, %v", again, err)
	}
	if again, err := s.Node(k); again != id || err != nil {
		t.Errorf("Node, again: %d, %v, want %d", again, err, id)
	}
}

// Rule 4: the same asked of two stores is answered the same, whatever else is asked that makes nothing.
func TestSameAgain(t *testing.T) {
	first, second := bothOf(t, 150), bothOf(t, 150)
	one, two, other := chance.Chance(5), chance.Chance(5), chance.Chance(6)
	for range 400 {
		first.step(&one)
		second.step(&two)
		for range 3 {
			at := second.anyNumber(&other)
			second.get(at, other.Below(9), other.Below(9))
			second.node([4]int{at, 0, at, -1})
			second.empty(41 + other.Below(3))
		}
	}
	stays(t, "asked the same", second.s, tells(t, first.s))
}
