package vdr_test

import (
	"fmt"
	"math/rand/v2"
	"slices"
	"strings"
	"testing"

	"flurry/api"
	"flurry/vdr"
)

// written is a set's text, as the chapter has it.
func written(l []api.Vdr) string {
	s := ""
	for _, v := range l {
		s += fmt.Sprintf("%s %d\n", v.Name, v.Weight)
	}
	return s
}

// P5.5, P5.7: a set's text, and the set of it.
func TestThereAndBack(t *testing.T) {
	for _, l := range goodSets() {
		was := slices.Clone(l)
		s, e := vdr.Text(l)
		if e != api.OK || s != written(l) || !slices.Equal(l, was) {
			t.Errorf("%.200v: %.200q %d", was, s, e)
		}
		back, line, e := vdr.Parse(s)
		if e != api.OK || line != 0 || !slices.Equal(back, l) {
			t.Errorf("%.200q: %.200v %d %d", s, back, line, e)
		}
	}
	if s, e := vdr.Text(pair()); s != "ana 3\nbö-2 1\n" || e != api.OK {
		t.Errorf("the chapter's example: %q %d", s, e)
	}
}

func mustNotParse(t *testing.T, text string, want int) {
	t.Helper()
	if l, line, e := vdr.Parse(text); len(l) != 0 || line != want || e != api.ErrForm {
		t.Errorf("%.200q: %.200v %d %d, not line %d", text, l, line, e, want)
	}
}

// badLines are texts that are no line.
func badLines() []string {
	l := []string{
		"\n", " \n", "ana\n", "ana \n", " 3\n", "3\n", "ana3\n", "ana  3\n", " ana 3\n", "ana 3 \n", "ana\t3\n", "ana 3\r\n", "\rana 3\n",
		"ana 0\n", "ana 00\n", "ana 03\n", "ana 003\n", "ana +3\n", "ana -3\n", "ana -0\n", "ana 3x\n", "ana x\n", "ana 0x3\n", "ana 3_0\n", "ana 3.0\n", "ana 1e3\n", "ana 3 4\n", "ana ٣\n", "ana 3\x00\n", "ana 3\xff\n", "ana ３\n",
		"ana 4611686018427387904\n", "ana 9223372036854775807\n", "ana 9223372036854775808\n", "ana 18446744073709551616\n", "ana 18446744073709551619\n", "ana 100000000000000000000000000000000000000\n",
		"#ana 3\n", "3 ana\n\n", "-3 ana\n", "an\u00a03\n", "\ufeffana 3\n", "ana 3;b 2\n",
		strings.Repeat("a", 1<<20) + " 3\n", "ana " + strings.Repeat("9", 1<<20) + "\n", "ana " + strings.Repeat("0", 1<<20) + "3\n", strings.Repeat(" ", 1<<20) + "\n",
	}
	for _, name := range badNames() {
		l = append(l, strings.ReplaceAll(name, "\n", "")+"  3\n")
		if !strings.Contains(name, "\n") {
			l = append(l, name+" 3\n")
		}
	}
	return l
}

// P5.5, R1: the first line that is none is told, wherever it stands, and whatever stands behind it.
func TestParseOfNoLines(t *testing.T) {
	for _, bad := range badLines() {
		mustNotParse(t, bad, 1)
		mustNotParse(t, strings.TrimSuffix(bad, "\n")+"\nb 2\nb 2", 1)
		mustNotParse(t, "b 2\n"+bad, 2)
		mustNotParse(t, "b 2\nc 2\n"+bad+"b 2\n"+bad, 3)
	}
	text := written(crowd(31, 1))
	mustNotParse(t, text+"ana\n", 32)
}

// P5.5: an empty text, and texts whose last line does not end.
func TestParseOfTextsThatDoNotEnd(t *testing.T) {
	mustNotParse(t, "", 1)
	mustNotParse(t, "\n", 1)
	mustNotParse(t, "\n\n", 1)
	for _, l := range goodSets() {
		text := written(l)
		mustNotParse(t, strings.TrimSuffix(text, "\n"), len(l))
		mustNotParse(t, text+"\n", len(l)+1)
		mustNotParse(t, text+" ", len(l)+1)
		mustNotParse(t, text+"other 1", len(l)+1)
		mustNotParse(t, text+"\x00", len(l)+1)
	}
}

// P5.5: the name of one ahead.
func TestParseOfANameAhead(t *testing.T) {
	for n := 1; n <= api.MaxVdrs; n++ {
		text := written(crowd(n, 2))
		mustNotParse(t, text+"v0 2\n", n+1)
		mustNotParse(t, text+fmt.Sprintf("v%d 9\n", n-1)+"x 1\n", n+1)
		mustNotParse(t, text+"v0 2", n+1)
	}
	mustNotParse(t, "a 1\nb 1\na 2\nb 2\n", 3)
}

// P5.5: the line with whose weight all together are above MaxStake.
func TestParseOfTooMuchStake(t *testing.T) {
	mustNotParse(t, "a 4611686018427387903\nb 1\n", 2)
	mustNotParse(t, "a 1\nb 4611686018427387903\nc 1\n", 2)
	mustNotParse(t, "a 2305843009213693952\nb 2305843009213693951\nc 1\nd 1\n", 3)
	for n := 1; n < api.MaxVdrs; n++ {
		l := crowd(n, api.MaxStake/int64(n))
		l[n/2].Weight += api.MaxStake % int64(n)
		if back, line, e := vdr.Parse(written(l)); e != api.OK || line != 0 || !slices.Equal(back, l) {
			t.Errorf("%d with all stake: %d %d", n, line, e)
		}
		mustNotParse(t, written(l)+"x 1\n", n+1)
		mustNotParse(t, written(l)+"x 4611686018427387903\ny 4611686018427387903\nz 4611686018427387903\n", n+1)
	}
}

// P5.5: the line behind the MaxVdrs-th one, whatever it is; a fault ahead of it comes first.
func TestParseOfTooManyLines(t *testing.T) {
	text := written(crowd(api.MaxVdrs, 1))
	for _, more := range []string{"x 1\n", "x 1\ny 1\n", "x 1", "\n", "v0 1\n", "x 0\n", "?", "\n\n\n"} {
		mustNotParse(t, text+more, 33)
	}
	mustNotParse(t, written(crowd(5000, 1)), 33)
	mustNotParse(t, strings.Replace(written(crowd(40, 1)), "v20 1", "v20 01", 1), 21)
}

// P5.5, P5.7: of any text Parse tells the set whose text it is, or none; never a text of another set.
func TestParseOfAnyText(t *testing.T) {
	r := rand.New(rand.NewPCG(5, 7))
	sets := goodSets()
	parsed := 0
	for range 20000 {
		b := []byte(written(sets[r.IntN(len(sets))]))
		for range r.IntN(3) {
			b[r.IntN(len(b))] = "0123456789 \n-aä\xc3é\x00+"[r.IntN(21)]
		}
		text := string(b)
		l, line, e := vdr.Parse(text)
		if e == api.OK {
			parsed++
			if s, e := vdr.Text(l); line != 0 || e != api.OK || s != text || written(l) != text {
				t.Fatalf("%.200q: %.200v %d", text, l, line)
			}
			continue
		}
		if ahead := wantLine(text); len(l) != 0 || e != api.ErrForm || line != ahead {
			t.Fatalf("%.200q: %d %d, not line %d", text, line, e, ahead)
		}
	}
	if parsed < 2000 || parsed > 18000 {
		t.Errorf("%d were a set's", parsed)
	}
}

// wantLine is the first line with which what is ahead of it is no set's text any more; 0, if there is none.
func wantLine(text string) int {
	var l []api.Vdr
	for n := 0; n == 0 || text != ""; n++ {
		var v api.Vdr
		first, rest, ended := strings.Cut(text, "\n")
		if _, err := fmt.Sscanf(first, "%s %d", &v.Name, &v.Weight); err != nil || !ended || first+"\n" != written([]api.Vdr{v}) {
			return n + 1
		}
		if l = append(l, v); vdr.Check(l) != api.OK {
			return n + 1
		}
		text = rest
	}
	return 0
}

// R3: what Parse answers is nobody else's.
func TestAnswersAreOnesOwn(t *testing.T) {
	a, _, _ := vdr.Parse("ana 3\nbö-2 1\n")
	b, _, _ := vdr.Parse("ana 3\nbö-2 1\n")
	a[0] = api.Vdr{Name: "x", Weight: 9}
	_ = append(a[:1], a[0])
	if !slices.Equal(b, pair()) {
		t.Errorf("%v", b)
	}
}
