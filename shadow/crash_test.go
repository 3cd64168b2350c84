package shadow

import (
	"slices"
	"testing"

	"quilt/api"
	"quilt/disk"
	"quilt/page"
)

// state is what a Shadow has.
type state struct {
	epoch int
	pages map[int]page.Page
}

// stateOf reads all there is.
func stateOf(t *testing.T, s *Shadow) state {
	t.Helper()
	is := state{s.Epoch(), map[int]page.Page{}}
	for _, n := range s.Pages() {
		p, err := s.Read(n)
		if err != nil {
			t.Fatalf("Read(%d): %v", n, err)
		}
		is.pages[n] = p
	}
	return is
}

func isState(a, b state) bool {
	if a.epoch != b.epoch || len(a.pages) != len(b.pages) {
		return false
	}
	for n, p := range a.pages {
		if q, ok := b.pages[n]; !ok || !isSame(p, q) {
			return false
		}
	}
	return true
}

// subsets are all choices of so many places; where there are many, those of up to two, and of all but up to two.
func subsets(places int) [][]int {
	var l [][]int
	for bits := range 1 << min(places, 16) {
		var keep []int
		for place := range places {
			if bits>>place&1 == 1 {
				keep = append(keep, place)
			}
		}
		if places <= 7 || len(keep) <= 2 || len(keep) >= places-2 {
			l = append(l, keep)
		}
	}
	return l
}

// crashes calls for each crash that may befall what is pending: what is kept of it, what is torn, and where. All but the sectors that are torn are there or not, so few places to tear are enough.
func crashes(d *disk.Disk, each func(keep []int, torn, part int)) {
	places := len(d.Pending())
	for _, keep := range subsets(places) {
		each(keep, -1, 0)
		for torn := range places {
			if slices.Contains(keep, torn) {
				continue
			}
			for _, part := range []int{1, 13, 40, 256, 511} {
				each(keep, torn, part)
			}
		}
	}
}

// story is a Shadow at whose end something is under way: it is told anew for each crash.
type story struct {
	sectors, frames int
	tell            func(t *testing.T, s *Shadow)
}

// stories all end ahead of a Commit.
func stories() []story {
	return []story{
		{12, 1, func(t *testing.T, s *Shadow) { // the first Commit of all
			lays(t, s, 0, filled(1))
			lays(t, s, 1, filled(2))
		}},
		{12, 2, func(t *testing.T, s *Shadow) { // over what was kept
			lays(t, s, 0, filled(1))
			lays(t, s, 1, filled(2))
			done(t, "Commit", s.Commit())
			lays(t, s, 0, filled(3))
			drops(t, s, 1)
			lays(t, s, 2, filled(4))
		}},
		{8, 3, func(t *testing.T, s *Shadow) { // with no sector to spare, over what was kept before the last
			lays(t, s, 0, filled(1))
			lays(t, s, 1, filled(2))
			done(t, "Commit", s.Commit())
			lays(t, s, 0, filled(3))
			done(t, "Commit", s.Commit())
			lays(t, s, 0, filled(4))
			drops(t, s, 1)
		}},
		{14, 8, func(t *testing.T, s *Shadow) { // two tables, all at hand
			lays(t, s, 122, filled(1))
			lays(t, s, 123, filled(2))
			done(t, "Commit", s.Commit())
			lays(t, s, 122, filled(3))
			lays(t, s, 123, filled(4))
			done(t, "Abort", s.Abort())
			lays(t, s, 123, filled(5))
			lays(t, s, 0, filled(6))
		}},
		{9, 1, func(t *testing.T, s *Shadow) { // all goes
			for i := range 3 {
				lays(t, s, 5, filled(i))
				done(t, "Commit", s.Commit())
			}
			drops(t, s, 5)
		}},
		{9, 2, func(t *testing.T, s *Shadow) { // nothing was done
			lays(t, s, 5, filled(1))
			done(t, "Commit", s.Commit())
		}},
	}
}

// told is a story up to its last Commit.
func (y story) told(t *testing.T) (*Shadow, *disk.Disk) {
	t.Helper()
	s, d := made(t, y.sectors, y.frames)
	y.tell(t, s)
	return s, d
}

// ends are what is kept at a story's end, what its last Commit would keep, and how many writes that needs.
func (y story) ends(t *testing.T) (old, next state, writes int) {
	t.Helper()
	s, d := y.told(t)
	old = stateOf(t, opened(t, d, 4))
	writes = d.Writes()
	done(t, "Commit", s.Commit())
	writes = d.Writes() - writes
	next = stateOf(t, opened(t, d, 4))
	if next.epoch != old.epoch+1 || !isState(next, stateOf(t, s)) {
		t.Fatalf("%v, and then %v", old, next)
	}
	return old, next, writes
}

// goesOn wants a Shadow to do what it should, whatever befell its disk.
func goesOn(t *testing.T, s *Shadow, d *disk.Disk) {
	t.Helper()
	before := stateOf(t, s)
	for n := range before.pages {
		drops(t, s, n)
	}
	lays(t, s, 3, filled(99))
	done(t, "Commit", s.Commit())
	s = opened(t, d, 2)
	has(t, s, before.epoch+1, d.Size()-4, 3)
	reads(t, s, 3, filled(99), before.epoch+1)
}

// SD4: a crash ahead of each write of a Commit, with whatever it leaves of what is pending: all is as it was.
func TestCrashInCommit(t *testing.T) {
	for _, y := range stories() {
		old, _, writes := y.ends(t)
		for limit := range writes {
			stop := func() *disk.Disk {
				s, d := y.told(t)
				done(t, "Limit", d.Limit(limit))
				fails(t, "Commit without writes", s.Commit(), api.ErrFull)
				return d
			}
			crashes(stop(), func(keep []int, torn, part int) {
				d := stop()
				done(t, "Crash", d.Crash(keep, torn, part))
				s := opened(t, d, 2)
				if got := stateOf(t, s); !isState(got, old) {
					t.Fatalf("behind %d writes, kept %v, torn %d at %d: %v, want %v", limit, keep, torn, part, got, old)
				}
				goesOn(t, s, d)
			})
		}
	}
}

// SD4: a crash when all is written, and nothing of it was made sure of since the last Flush: what was kept, or what would be; just that, if the last write outlives it.
func TestCrashAtRoot(t *testing.T) {
	for _, y := range stories() {
		old, next, writes := y.ends(t)
		s, d := y.told(t)
		done(t, "Commit", s.Commit())
		root := next.epoch % 2
		last, err := d.Read(root)
		done(t, "Read of the disk", err)
		stop := func() *disk.Disk {
			s, d := y.told(t)
			done(t, "Limit", d.Limit(writes-1))
			fails(t, "Commit without its last write", s.Commit(), api.ErrFull)
			done(t, "Limit", d.Limit(-1))
			done(t, "Write of the disk", d.Write(root, last))
			return d
		}
		crashes(stop(), func(keep []int, torn, part int) {
			d := stop()
			want := old
			if slices.Contains(keep, len(d.Pending())-1) {
				want = next
			}
			done(t, "Crash", d.Crash(keep, torn, part))
			s := opened(t, d, 2)
			if got := stateOf(t, s); !isState(got, want) {
				t.Fatalf("kept %v, torn %d at %d: %v, want %v", keep, torn, part, got, want)
			}
			goesOn(t, s, d)
		})
		d = stop()
		done(t, "Crash", d.Crash([]int{len(d.Pending()) - 1}, -1, 0)) // the root outlives it alone
		if got := stateOf(t, opened(t, d, 2)); !isState(got, next) {
			t.Fatalf("a root was laid ahead of what it tells: %v, want %v", got, next)
		}
	}
}

// SD4: a crash ahead of a Commit, when some of what was done is on the disk already.
func TestCrashAheadOfCommit(t *testing.T) {
	for _, y := range stories() {
		old, _, _ := y.ends(t)
		_, d := y.told(t)
		crashes(d, func(keep []int, torn, part int) {
			_, d := y.told(t)
			done(t, "Crash", d.Crash(keep, torn, part))
			s := opened(t, d, 2)
			if got := stateOf(t, s); !isState(got, old) {
				t.Fatalf("kept %v, torn %d at %d: %v, want %v", keep, torn, part, got, old)
			}
			goesOn(t, s, d)
		})
	}
}

// SD4: behind a Commit nothing is pending: no crash takes anything.
func TestCrashBehindCommit(t *testing.T) {
	for _, y := range stories() {
		_, next, _ := y.ends(t)
		s, d := y.told(t)
		done(t, "Commit", s.Commit())
		if len(d.Pending()) > 0 {
			t.Errorf("pending behind a Commit: %v", d.Pending())
		}
		done(t, "Crash", d.Crash(nil, -1, 0))
		if got := stateOf(t, opened(t, d, 2)); !isState(got, next) {
			t.Errorf("%v, want %v", got, next)
		}
	}
}

// SD1, SD4: New over what was kept: a crash in it leaves that, or nothing, and not what was kept ahead of that.
func TestCrashInNew(t *testing.T) {
	for commits := range 4 {
		base := func() *disk.Disk {
			s, d := made(t, 12, 2)
			for i := range commits {
				lays(t, s, 0, filled(i))
				done(t, "Commit", s.Commit())
			}
			return d
		}
		old, none := stateOf(t, opened(t, base(), 2)), state{}
		for limit := range 2 {
			stop := func() *disk.Disk {
				d := base()
				done(t, "Limit", d.Limit(limit))
				s, err := New(d, 2)
				notMade(t, "New without writes", s, err, api.ErrFull)
				return d
			}
			cannotLose := func(d *disk.Disk, what string) {
				t.Helper()
				s := opened(t, d, 2)
				if got := stateOf(t, s); !isState(got, old) && !isState(got, none) {
					t.Fatalf("%d commits, %d writes, %s: %v, want %v, or nothing", commits, limit, what, got, old)
				}
				goesOn(t, s, d)
			}
			crashes(stop(), func(keep []int, torn, part int) {
				d := stop()
				done(t, "Crash", d.Crash(keep, torn, part))
				cannotLose(d, "crashed")
			})
			// The write that was not done comes, or is torn.
			last := begunRoots(t, base())
			for part := range 513 {
				d := stop()
				done(t, "Limit", d.Limit(-1))
				at := commits % 2
				if limit == 0 {
					at = 1 - at
				}
				done(t, "Write of the disk", d.Write(at, last[at]))
				done(t, "Crash", d.Crash(nil, slices.Index(d.Pending(), at), part))
				cannotLose(d, "torn")
			}
		}
	}
}

// begunRoots are the roots that New lays on a disk.
func begunRoots(t *testing.T, d *disk.Disk) [][]byte {
	t.Helper()
	begun(t, d, 2)
	var l [][]byte
	for root := range 2 {
		b, err := d.Read(root)
		done(t, "Read of the disk", err)
		l = append(l, b)
	}
	return l
}

// SD4: a root that is torn anywhere is none, and what it would have told is laid anew.
func TestTornRootAnywhere(t *testing.T) {
	y := stories()[1]
	old, next, writes := y.ends(t)
	s, d := y.told(t)
	done(t, "Commit", s.Commit())
	root := next.epoch % 2
	last, err := d.Read(root)
	done(t, "Read of the disk", err)
	for part := range 513 {
		s, d := y.told(t)
		done(t, "Limit", d.Limit(writes-1))
		fails(t, "Commit without its last write", s.Commit(), api.ErrFull)
		done(t, "Limit", d.Limit(-1))
		done(t, "Write of the disk", d.Write(root, last))
		done(t, "Crash", d.Crash(nil, len(d.Pending())-1, part))
		s = opened(t, d, 2)
		got := stateOf(t, s)
		if !isState(got, old) && !isState(got, next) || part == 0 && !isState(got, old) || part == 512 && !isState(got, next) {
			t.Fatalf("torn at %d: %v", part, got)
		}
		goesOn(t, s, d)
	}
}
