package learn

import (
	"cmp"
	"maps"
	"math"
	"slices"

	"sleuth/api"
)

// Miner keeps of rows what tells which claims follow from them.
type Miner struct {
	rows    int // math.MaxInt stands for all that are more
	columns []column
	pairs   map[double]*relation // of each two variables, the lower one first
	self    *Miner               // itself; so neither a zero Miner nor a copied struct passes for one that was made
}

// New returns a miner without rows: P8.2.
func New(vars int) (*Miner, api.Errno) {
	if e := checkVars(vars); e != api.OK {
		return nil, e
	}
	m := &Miner{columns: make([]column, vars), pairs: map[double]*relation{}}
	for b := range vars {
		for a := range b {
			m.pairs[double{a, b}] = &relation{}
		}
	}
	m.self = m
	return m, api.OK
}

func (m *Miner) isMade() bool { return m != nil && m.self == m }

// count counts rows; a miner that is merged with itself soon has more than a number tells.
func (m *Miner) count(rows int) { m.rows += min(rows, math.MaxInt-m.rows) }

// Add adds a row: P8.2.
func (m *Miner) Add(row []int64) api.Errno {
	switch {
	case !m.isMade():
		return api.ErrNil
	case len(row) != len(m.columns):
		return api.ErrArg
	case !arePlain(row):
		return api.ErrLimit
	}
	for i, n := range row {
		m.columns[i].add(n)
	}
	for of, r := range m.pairs {
		r.add(point{row[of.a], row[of.b]})
	}
	m.count(1)
	return api.OK
}

// Merge adds all rows of another miner: P8.2.
func (m *Miner) Merge(o *Miner) api.Errno {
	switch {
	case !m.isMade() || !o.isMade():
		return api.ErrNil
	case len(m.columns) != len(o.columns):
		return api.ErrArg
	case o.rows == 0:
		return api.OK
	}
	for i, c := range o.columns {
		m.columns[i].merge(c)
	}
	for of, r := range o.pairs {
		m.pairs[of].merge(*r)
	}
	m.count(o.rows)
	return api.OK
}

// Rows returns the number of rows: P8.2.
func (m *Miner) Rows() int {
	if !m.isMade() {
		return 0
	}
	return m.rows
}

// Copy returns a miner with the same rows: P8.2.
func (m *Miner) Copy() *Miner {
	if !m.isMade() {
		return nil
	}
	c := &Miner{rows: m.rows, columns: slices.Clone(m.columns), pairs: map[double]*relation{}}
	for of, r := range m.pairs {
		own := *r
		c.pairs[of] = &own
	}
	c.self = c
	return c
}

// Follows reports whether a claim is true of all rows: P8.2.
func (m *Miner) Follows(x api.Invariant) (bool, api.Errno) {
	if !m.isMade() {
		return false, api.ErrNil
	}
	c, e := claimOf(x, len(m.columns))
	if e != api.OK {
		return false, e
	}
	return m.rows == 0 || m.follows(c), api.OK
}

// relation returns what is kept of two variables, in either order.
func (m *Miner) relation(a, b int) relation {
	if a > b {
		return m.pairs[double{b, a}].turned()
	}
	return *m.pairs[double{a, b}]
}

// follows reports whether a claim is true of all rows, of which there is one.
func (m *Miner) follows(c claim) bool {
	a, b := c.variables()
	if a != b {
		return followsFrom(m.relation(a, b), c)
	}
	v := &m.columns[a]
	switch c := c.(type) {
	case constant:
		return v.isConstant() && v.least == c.k
	case oneOf:
		return !slices.ContainsFunc(v.known(), func(n int64) bool { return !slices.Contains(c.set, n) }) // many are more than there are in the set
	case low:
		return v.least >= c.k
	case high:
		return v.greatest <= c.k
	case nonzero:
		return !v.zero
	case modulo:
		return v.step%c.m == 0 && residue(v.least, c.m) == c.k
	}
	return false
}

// followsFrom reports whether a claim about two variables follows from what is kept of them.
func followsFrom(r relation, c claim) bool {
	switch c := c.(type) {
	case equal:
		return !r.less && !r.more
	case notEqual:
		return !r.same
	case less:
		return !r.same && !r.more
	case lessEq:
		return !r.more
	case linear:
		return r.isOn(line{true, c.k, c.m})
	}
	return false
}

// Claims returns the claims about the rows: P8.2.
func (m *Miner) Claims(support int) []api.Invariant {
	if !m.isMade() || m.rows == 0 || m.rows < support {
		return nil
	}
	var l []claim
	for i := range m.columns {
		l = append(l, m.columns[i].claims(single{i})...)
	}
	for _, of := range slices.SortedFunc(maps.Keys(m.pairs), compareDoubles) {
		if a, b := m.columns[of.a], m.columns[of.b]; !a.isConstant() && !b.isConstant() {
			l = append(l, m.pairs[of].claims(of, a.span, b.span)...)
		}
	}
	var all []api.Invariant
	for _, c := range l {
		all = append(all, c.invariant())
	}
	return all
}

func compareDoubles(x, y double) int { return cmp.Or(cmp.Compare(x.a, y.a), cmp.Compare(x.b, y.b)) }
