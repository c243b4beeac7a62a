package vdr

import (
	"iter"
	"slices"
	"strconv"
	"strings"

	"flurry/api"
)

// Text is a set's text, Parse the set of a text, All goes through a set.
func Text(l []api.Vdr) (string, api.Errno) {
	if e := Check(l); e != api.OK {
		return "", e
	}
	var b strings.Builder
	for name, weight := range All(l) {
		b.WriteString(line(name, weight))
	}
	return b.String(), api.OK
}

func Parse(text string) ([]api.Vdr, int, api.Errno) {
	var l []api.Vdr
	for s := range strings.Lines(text) {
		v := ofLine(s)
		l = append(l, v)
		if line(v.Name, v.Weight) != s || Check(l) != api.OK {
			return nil, len(l), api.ErrForm
		}
	}
	if len(l) == 0 {
		return nil, 1, api.ErrForm
	}
	return l, 0, api.OK
}

func All(l []api.Vdr) iter.Seq2[string, int64] {
	told := slices.Clone(l)
	return func(yield func(string, int64) bool) {
		for _, v := range told {
			if !yield(v.Name, v.Weight) {
				return
			}
		}
	}
}

func line(name string, weight int64) string {
	return name + " " + strconv.FormatInt(weight, 10) + "\n"
}

// ofLine is the validator of a line. Of a text that is none it is one whose line is another one: so it need not say what was wrong.
func ofLine(s string) api.Vdr {
	name, digits, _ := strings.Cut(strings.TrimSuffix(s, "\n"), " ")
	weight, _ := strconv.ParseInt(digits, 10, 64)
	return api.Vdr{Name: strings.Clone(name), Weight: weight} // a name alone is not to keep the whole text
}
