package session

import (
	"strconv"
	"strings"

	"sleuth/api"
)

// hexadecimal returns a sum as 16 hexadecimal digits.
func hexadecimal(sum uint64) string {
	digits := strconv.FormatUint(sum, 16)
	return strings.Repeat("0", 16-len(digits)) + digits
}

// spaced returns numbers, each after a blank.
func spaced[T int | int64](l []T) string {
	var text []byte
	for _, n := range l {
		text = strconv.AppendInt(append(text, blank...), int64(n), 10)
	}
	return string(text)
}

func outcomeText(o api.Outcome) string {
	return "end " + strconv.Itoa(int(o.End)) + " fault " + strconv.Itoa(int(o.Fault)) + " line " + strconv.Itoa(o.Line) + " steps " + strconv.Itoa(o.Steps) + " out" + spaced(o.Out)
}
