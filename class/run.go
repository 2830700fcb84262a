package class

import "eyot/api"

// run is the bytes from first to last, both of them in it.
type run struct{ first, last byte }

func (r run) set() api.Set {
	return And(since(int(r.first)), Not(since(int(r.last)+1)))
}

func (r run) show() string {
	switch r.last - r.first {
	case 0:
		return signOf(r.first)
	case 1:
		return signOf(r.first) + signOf(r.last)
	}
	return signOf(r.first) + "-" + signOf(r.last)
}

// runsOf tells the runs of s in order, none of which touches the next.
func runsOf(s api.Set) []run {
	var l []run
	first, is := Least(s)
	for is {
		r := run{first, lastOfRun(s, first)}
		l = append(l, r)
		first, is = Least(And(s, since(int(r.last)+1)))
	}
	return l
}

// lastOfRun tells where the run that goes through b ends.
func lastOfRun(s api.Set, b byte) byte {
	behind, is := Least(And(Not(s), since(int(b))))
	if !is {
		return 255
	}
	return behind - 1
}

func signOf(b byte) string {
	switch {
	case isMark(b):
		return `\` + string(rune(b))
	case isSeen(b):
		return string(rune(b))
	}
	return `\x` + hexDigits[b>>4:b>>4+1] + hexDigits[b&15:b&15+1]
}
