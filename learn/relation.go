package learn

import "slices"

// point is the values of two variables in a row.
type point struct{ x, y int64 }

func (p point) turned() point { return point{p.y, p.x} }

// order is how x compares to y: which of the three cases there were.
type order struct{ less, same, more bool }

func (o order) turned() order { return order{o.more, o.same, o.less} }

func (o order) with(p order) order {
	return order{o.less || p.less, o.same || p.same, o.more || p.more}
}

func (p point) order() order { return order{p.x < p.y, p.x == p.y, p.x > p.y} }

// line is the points for which y is k * x + m, or, where there are no such numbers, none.
type line struct {
	there bool
	k, m  int64
}

// through returns the line through two different points.
func through(p, q point) line {
	across, up := q.x-p.x, q.y-p.y
	if across == 0 || up%across != 0 || !isPlain(up/across) {
		return line{}
	}
	k := up / across
	m := p.y - k*p.x
	return line{isPlain(m), k, m}
}

func (l line) has(p point) bool { return l.there && p.y == l.k*p.x+l.m }

// manyPoints is how many different points a line has to have for a claim.
const manyPoints = 3

// relation is what a miner keeps of two variables: of the points the first manyPoints different ones, and whether all others are on the line through the first two.
type relation struct {
	order
	points      [manyPoints]point
	count       int
	forth, back line // of the points, and of the turned points
}

func (r *relation) known() []point { return r.points[:r.count] }

func (r *relation) add(p point) {
	r.order = r.order.with(p.order())
	if r.count >= 2 {
		r.keep(r.forth.has(p), r.back.has(p.turned()))
	}
	if r.count == manyPoints || slices.Contains(r.known(), p) {
		return
	}
	r.points[r.count] = p
	r.count++
	if r.count == 2 {
		first := r.points[0]
		r.forth, r.back = through(first, p), through(first.turned(), p.turned())
	}
}

// keep gives up the lines on which a point is not.
func (r *relation) keep(forth, back bool) {
	r.forth.there = r.forth.there && forth
	r.back.there = r.back.there && back
}

// merge adds what another relation was given.
func (r *relation) merge(o relation) {
	for _, p := range o.known() {
		r.add(p)
	}
	r.order = r.order.with(o.order)
	if o.count >= 2 {
		r.keep(o.forth.there, o.back.there) // if both have the points that o kept on one line, it is the same one
	}
}

// isOn reports whether all points are on a line.
func (r *relation) isOn(l line) bool {
	return !slices.ContainsFunc(r.known(), func(p point) bool { return !l.has(p) }) && (r.count < 2 || r.forth.there)
}

// turned returns the relation with the variables the other way round.
func (r relation) turned() relation {
	r.order = r.order.turned()
	for i, p := range r.points {
		r.points[i] = p.turned()
	}
	r.forth, r.back = r.back, r.forth
	return r
}

// claims returns the claims about two variables, which are not constant and have these spans.
func (r *relation) claims(of double, a, b span) []claim {
	around := double{of.b, of.a}
	var l []claim
	switch {
	case !r.less && !r.more:
		return []claim{equal{of}}
	case !r.same && !r.more:
		l = unless(a.greatest < b.least, less{of})
	case !r.same && !r.less:
		l = unless(b.greatest < a.least, less{around})
	case !r.more:
		l = unless(a.greatest <= b.least, lessEq{of})
	case !r.less:
		l = unless(b.greatest <= a.least, lessEq{around})
	case !r.same:
		l = []claim{notEqual{of}}
	}
	if r.count < manyPoints {
		return l
	}
	switch {
	case r.forth.there:
		l = append(l, linear{of, r.forth.k, r.forth.m})
	case r.back.there:
		l = append(l, linear{around, r.back.k, r.back.m})
	}
	return l
}

// unless returns a claim, or nothing if it follows from something else.
func unless(follows bool, c claim) []claim {
	if follows {
		return nil
	}
	return []claim{c}
}
