package slice

// set is a set of things that are numbered from 0 on: whether it has each of them.
type set[T ~int] []bool

func (s set[T]) has(x T) bool { return s[x] }

// add adds things, and returns those that were not there. A number below 0 is none: the exit, or no parent.
func (s set[T]) add(things []T) []T {
	var added []T
	for _, x := range things {
		if x >= 0 && !s[x] {
			s[x] = true
			added = append(added, x)
		}
	}
	return added
}

// list returns what is in a set, ascending.
func (s set[T]) list() []T {
	var things []T
	for i, is := range s {
		if is {
			things = append(things, T(i))
		}
	}
	return things
}

// split returns the things of a list that are in a set, and those that are not.
func (s set[T]) split(things []T) (in, out []T) {
	for _, x := range things {
		if s.has(x) {
			in = append(in, x)
		} else {
			out = append(out, x)
		}
	}
	return in, out
}

// grown returns the least set, among so many things, that has some first ones, and with each thing all those to which it leads.
func grown[T ~int](count int, first []T, leads func(from T) []T) set[T] {
	s := make(set[T], count)
	fresh := s.add(first)
again:
	var added []T
	for _, x := range fresh {
		added = append(added, s.add(leads(x))...)
	}
	if len(added) > 0 {
		fresh = added
		goto again
	}
	return s
}
