package rank

import "sleuth/api"

// CheckSpectrum returns the first error of a spectrum.
func CheckSpectrum(s api.Spectrum) api.Errno {
	switch {
	case s.Parts < 1:
		return api.ErrArg
	case s.Parts > api.MaxParts || len(s.Rows) > api.MaxTests:
		return api.ErrLimit
	}
	for _, row := range s.Rows {
		if !isSetBelow(row.Hits, s.Parts) {
			return api.ErrArg
		}
	}
	return api.OK
}

// Tallies returns the tallies of all components.
func Tallies(s api.Spectrum) ([]api.Tally, api.Errno) {
	if e := CheckSpectrum(s); e != api.OK {
		return nil, e
	}
	tallies := make([]api.Tally, s.Parts)
	for _, row := range s.Rows {
		for part := range tallies {
			count(&tallies[part], row.Fail, has(row.Hits, part))
		}
	}
	return tallies, api.OK
}

// count counts a row in the tally of a component.
func count(t *api.Tally, fail, hit bool) {
	switch {
	case fail && hit:
		t.FailHit++
	case hit:
		t.PassHit++
	case fail:
		t.FailMiss++
	default:
		t.PassMiss++
	}
}

// column tells which rows cover a component.
type column [api.MaxTests]bool

// Alike returns the groups of components that are covered by the same rows.
func Alike(s api.Spectrum) ([][]int, api.Errno) {
	if e := CheckSpectrum(s); e != api.OK {
		return nil, e
	}
	columns := make([]column, s.Parts)
	for i, row := range s.Rows {
		for _, part := range row.Hits {
			columns[part][i] = true
		}
	}
	var groups [][]int
	numbers := map[column]int{}
	for part, c := range columns {
		n, known := numbers[c]
		if !known {
			n = len(groups)
			numbers[c] = n
			groups = append(groups, nil)
		}
		groups[n] = append(groups[n], part)
	}
	return groups, api.OK
}

// Lift returns the spectrum of larger components.
func Lift(s api.Spectrum, owner []int, owners int) (api.Spectrum, api.Errno) {
	e := CheckSpectrum(s)
	switch {
	case e != api.OK:
		return api.Spectrum{}, e
	case owners < 1:
		return api.Spectrum{}, api.ErrArg
	case owners > api.MaxParts:
		return api.Spectrum{}, api.ErrLimit
	case len(owner) != s.Parts:
		return api.Spectrum{}, api.ErrArg
	}
	for _, n := range owner {
		if n < 0 || n >= owners {
			return api.Spectrum{}, api.ErrArg
		}
	}
	lifted := api.Spectrum{Parts: owners}
	for _, row := range s.Rows {
		lifted.Rows = append(lifted.Rows, api.Row{Hits: ownersOf(row.Hits, owner), Fail: row.Fail})
	}
	return lifted, api.OK
}

// ownersOf returns the set of what owns some components.
func ownersOf(parts, owner []int) []int {
	var l []int
	for _, part := range parts {
		l = append(l, owner[part])
	}
	return asSet(l)
}

// Join returns two spectra of the same tests as one.
func Join(a, b api.Spectrum) (api.Spectrum, api.Errno) {
	for _, s := range [...]api.Spectrum{a, b} {
		if e := CheckSpectrum(s); e != api.OK {
			return api.Spectrum{}, e
		}
	}
	if len(a.Rows) != len(b.Rows) {
		return api.Spectrum{}, api.ErrClash
	}
	joined := api.Spectrum{Parts: a.Parts + b.Parts}
	for i, row := range a.Rows {
		if row.Fail != b.Rows[i].Fail {
			return api.Spectrum{}, api.ErrClash
		}
		hits := append([]int(nil), row.Hits...)
		for _, part := range b.Rows[i].Hits {
			hits = append(hits, a.Parts+part)
		}
		joined.Rows = append(joined.Rows, api.Row{Hits: hits, Fail: row.Fail})
	}
	if joined.Parts > api.MaxParts {
		return api.Spectrum{}, api.ErrLimit
	}
	return joined, api.OK
}
