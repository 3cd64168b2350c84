package shadow

import (
	"errors"
	"math"

	"quilt/api"
	"quilt/page"
)

// roots is how many sectors, from 0 on, are roots.
const roots = 2

// none is told where no page is: no page stands in a root.
const none = 0

// A root's page, and a table's, have sectors as records. Its Number is a table's place among the tables, its Epoch that of the Commit that laid it.
const (
	rootKind   = 'R'
	tableKind  = 'T'
	numberSize = 4                   // bytes of a sector's number
	perTable   = 123                 // as many as a page has room for
	maxTables  = MaxPages / perTable // a root has room for one more, which would have no numbers
)

// other is the root beside that one.
func other(root int) int { return roots - 1 - root }

// listed is a page of sectors.
func listed(kind byte, number, epoch int, sectors []int) page.Page {
	p := page.Page{Kind: kind, Number: uint32(number), Epoch: uint64(epoch), Size: numberSize}
	for _, x := range sectors {
		p.Records = append(p.Records, []byte{byte(x >> 24), byte(x >> 16), byte(x >> 8), byte(x)})
	}
	return p
}

// isList tells whether a page is one of sectors, of that kind.
func isList(p page.Page, kind byte) bool { return p.Kind == kind && p.Size == numberSize }

// told are the sectors of such a page.
func told(p page.Page) []int {
	var sectors []int
	for _, r := range p.Records {
		sector := 0
		for _, x := range r {
			sector = sector<<8 | int(x)
		}
		sectors = append(sectors, sector)
	}
	return sectors
}

// tabled are the tables of those pages: of each their sectors.
func tabled(pages map[int]int) [][]int {
	tables := make([][]int, tablesFor(pages))
	for i := range tables {
		tables[i] = make([]int, perTable) // all none
	}
	for n, sector := range pages {
		tables[n/perTable][n%perTable] = sector
	}
	return tables
}

// tablesFor is how many tables go up to the greatest of those pages' numbers.
func tablesFor(pages map[int]int) int {
	count := 0
	for n := range pages {
		count = max(count, n/perTable+1)
	}
	return count
}

// look is the page of a sector; ErrForm, if it is good, and no page.
func (s *Shadow) look(sector int) (page.Page, error) {
	b, err := s.pool.Read(sector)
	if err != nil {
		return page.Page{}, err
	}
	return page.Decode(b)
}

// put lays a page in a sector.
func (s *Shadow) put(sector int, p page.Page) error {
	b, err := page.Encode(p)
	if err != nil {
		return err
	}
	return s.pool.Write(sector, b)
}

// keep lays tables at those sectors, and the root that tells them.
func (s *Shadow) keep(tables [][]int, places []int) error {
	epoch := s.epoch + 1
	for i, sectors := range tables {
		if err := s.put(places[i], listed(tableKind, i, epoch, sectors)); err != nil {
			return err
		}
	}
	// All that the root leads to must be sure ahead of it: a crash may keep the root alone.
	if err := s.pool.Flush(); err != nil {
		return err
	}
	return s.layRoot(other(s.root), epoch, places)
}

// layRoot lays a root, and makes sure of it.
func (s *Shadow) layRoot(sector, epoch int, tables []int) error {
	if err := s.put(sector, listed(rootKind, 0, epoch, tables)); err != nil {
		return err
	}
	return s.pool.Flush()
}

// newest is the root that counts, and its sector; false, if neither is one.
func (s *Shadow) newest() (page.Page, int, bool) {
	var root page.Page
	counts, found := 0, false
	for sector := range roots {
		p, err := s.look(sector)
		if err != nil || !isList(p, rootKind) {
			continue
		}
		if !found || p.Epoch > root.Epoch {
			root, counts, found = p, sector, true
		}
	}
	return root, counts, found
}

// tablesOf are what stands where a root tells tables: ErrSum, if one is not good, whatever the others are; a page of nothing, if one is no page.
func (s *Shadow) tablesOf(root page.Page) ([]page.Page, error) {
	var tables []page.Page
	for _, sector := range told(root) {
		p, err := s.look(sector)
		if errors.Is(err, api.ErrSum) {
			return nil, api.ErrSum
		}
		tables = append(tables, p)
	}
	return tables, nil
}

// restore takes up what a root and its tables tell; false, if that can't be.
func (s *Shadow) restore(root page.Page, tables []page.Page) bool {
	if root.Number != 0 || root.Epoch > math.MaxInt || len(tables) > maxTables {
		return false
	}
	s.epoch, s.tables = int(root.Epoch), told(root)
	for i, p := range tables {
		if !isList(p, tableKind) || p.Number != uint32(i) || p.Epoch != root.Epoch || len(p.Records) != perTable {
			return false
		}
		for at, sector := range told(p) {
			if sector != none {
				s.kept[i*perTable+at] = sector
			}
		}
	}
	return s.settle() && tablesFor(s.kept) == len(tables)
}
