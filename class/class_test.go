package class

import (
	"fmt"
	"math/rand"
	"regexp"
	"slices"
	"strings"
	"testing"

	"eyot/api"
)

// plain is a set as a row of answers, one a byte; it leans on nothing of the package.
type plain [256]bool

// set has the bits where api.Set says that they stand.
func (p plain) set() api.Set {
	var s api.Set
	for b, in := range p {
		if in {
			s[b/64] += 1 << (b % 64)
		}
	}
	return s
}

func (p plain) not() plain {
	for b := range p {
		p[b] = !p[b]
	}
	return p
}

func plainOf(s string) plain {
	var p plain
	for i := range len(s) {
		p[s[i]] = true
	}
	return p
}

func plainRun(first, last int) plain {
	var p plain
	for b := first; b <= last; b++ {
		p[b] = true
	}
	return p
}

func setOf(s string) api.Set { return plainOf(s).set() }

func everyByte() api.Set { return plainRun(0, 255).set() }

func isNamedMark(b byte) bool {
	switch b {
	case '\\', '|', '*', '+', '?', '(', ')', '[', ']', '.', '^', '-':
		return true
	}
	return false
}

func wantParse(t *testing.T, s string, set api.Set, n int) {
	t.Helper()
	if x, k, e := Parse(s); x != set || k != n || e != api.OK {
		t.Errorf("Parse(%.40q) = %x, %d, %d; want %x, %d", s, x, k, e, set, n)
	}
}

func wantNoParse(t *testing.T, s string) {
	t.Helper()
	if x, k, e := Parse(s); x != (api.Set{}) || k != 0 || e != api.ErrForm {
		t.Errorf("Parse(%.40q) = %x, %d, %d; want nothing, ErrForm", s, x, k, e)
	}
}

// P8.1: every byte alone: those from 33 to 126 that are no mark are signs, `.` is all bytes.
func TestParseBytes(t *testing.T) {
	for b := range 256 {
		s := string([]byte{byte(b)})
		switch {
		case s == ".":
			wantParse(t, s, everyByte(), 1)
		case b >= 33 && b <= 126 && !isNamedMark(byte(b)):
			wantParse(t, s, setOf(s), 1)
		default:
			wantNoParse(t, s)
		}
	}
}

// P8.1: every byte behind a backslash: a mark is a sign, no other is (and x wants its digits).
func TestParseBackslash(t *testing.T) {
	wantNoParse(t, `\`)
	for b := range 256 {
		s := string([]byte{byte(b)})
		if isNamedMark(byte(b)) {
			wantParse(t, `\`+s, setOf(s), 2)
			wantParse(t, `\`+s+`\`, setOf(s), 2)
			wantParse(t, `[\`+s+`]`, setOf(s), 4)
		} else {
			wantNoParse(t, `\`+s)
			wantNoParse(t, `[\`+s+`]`)
		}
	}
}

// P8.1: every byte by its digits, also one that could be written plainly.
func TestParseDigits(t *testing.T) {
	for b := range 256 {
		s, want := fmt.Sprintf(`\x%02x`, b), setOf(string([]byte{byte(b)}))
		wantParse(t, s, want, 4)
		wantParse(t, s+"0", want, 4)
		wantParse(t, "["+s+"]", want, 6)
	}
}

// P8.1: `\x` with too few digits, and with what is none in either place.
func TestParseWrongDigits(t *testing.T) {
	for _, s := range []string{`\x`, `\x0`, `\xf`, `\X00`, `\x-1`, `\x 0`, `\x0 `, `\x.0`, `[\x]`, `[\x0]`, `[\x0-9]`, `[a-\x6]`} {
		wantNoParse(t, s)
	}
	for b := range 256 {
		s := string([]byte{byte(b)})
		if strings.Contains("0123456789abcdef", s) {
			continue
		}
		wantNoParse(t, `\x`+s+"0")
		wantNoParse(t, `\x0`+s)
		wantNoParse(t, `[\x0`+s+`]`)
	}
}

// P8.1: brackets: one part and several, runs, runs of one byte, signs of each form on both sides of a run, the same byte again.
func TestParseBrackets(t *testing.T) {
	for s, want := range map[string]string{
		"[a]": "a", "[ab]": "ab", "[ba]": "ab", "[aa]": "a", "[a-a]": "a", "[a-b]": "ab", "[a-c]": "abc",
		"[a-cx-z]": "abcxyz", "[x-za-c]": "abcxyz", "[a-cb-d]": "abcd", "[a-cb]": "abc", "[ba-c]": "abc", "[a-cd-f]": "abcdef", "[a-ce]": "abce", "[ea-c]": "abce", "[ad-fz]": "adefz",
		`[\x30-2]`: "012", `[0-\x32]`: "012", `[\x30-\x32]`: "012", `[\x41\x42]`: "AB", `[\x41-\x41]`: "A",
		`[\(-\+]`: "()*+", `[\(-+]`: "", `[\--\.]`: "-.", `[\--\-]`: "-", `[\--/]`: "-./", `[+-\-]`: "", `[\+-\-]`: "+,-", `[a\-c]`: "-ac", `[a-c\-e]`: "-abce",
		`[\^]`: "^", `[\^a]`: "^a", `[\^-a]`: "^_`a", `[\]]`: "]", `[\[\]]`: "[]", `[\\]`: `\`, `[\\-\]]`: `\]`, `[\.]`: ".", `[\||]`: "",
		"[!-#]": "!\"#", "[|-~]": "", "[}-~]": "}~", "[{-\\x7f]": "{|}~\x7f", `[\x00]`: "\x00", `[\x00\xff]`: "\x00\xff", `[\x3e-\x41]`: ">?@A", `[\x7e-\x81]`: "~\x7f\x80\x81", `[\xbe-\xc1]`: "\xbe\xbf\xc0\xc1", `[\xfe-\xff]`: "\xfe\xff",
		"[\"',:;<=>@#$%&!_`~{}]": "\"',:;<=>@#$%&!_`~{}",
	} {
		if want == "" {
			wantNoParse(t, s)
			continue
		}
		wantParse(t, s, setOf(want), len(s))
		wantParse(t, "[^"+s[1:], plainOf(want).not().set(), len(s)+1)
	}
	wantParse(t, `[\x00-\xff]`, everyByte(), 11)
	wantParse(t, `[^\x00-\xfe]`, setOf("\xff"), 12)
	wantParse(t, `[^\x01-\xff]`, setOf("\x00"), 12)
}

// P8.1: every run: of the bytes between, if its last is not less than its first, and else none; with `^` the others, if there are any.
func TestParseRuns(t *testing.T) {
	for a := range 256 {
		for b := range 256 {
			s, not := fmt.Sprintf(`[\x%02x-\x%02x]`, a, b), fmt.Sprintf(`[^\x%02x-\x%02x]`, a, b)
			if a > b {
				wantNoParse(t, s)
				wantNoParse(t, not)
				continue
			}
			p := plainRun(a, b)
			wantParse(t, s, p.set(), 11)
			if a == 0 && b == 255 {
				wantNoParse(t, not)
			} else {
				wantParse(t, not, p.not().set(), 12)
			}
		}
	}
}

// P8.1: brackets that are none: without a part, not closed, with half a run, with marks and others that are no signs.
func TestParseWrongBrackets(t *testing.T) {
	for _, s := range []string{
		"[", "[]", "[^", "[^]", "[]]", "[^]]", "[]a]", "[^]a]", "[a", "[^a", "[a-", "[a-c", "[ab-c", `[a\]`, `[\]`, `[^\]`, `[a-\]`,
		"[a-]", "[^a-]", "[-]", "[-a]", "[^-a]", "[--a]", "[a--]", "[a-c-e]", "[a-c-]", "[a--c]", "[a-a-a]",
		"[c-a]", "[b-a]", "[^c-a]", "[ac-b]", "[a-cz-y]", "[.]", "[a.]", "[.a]", "[a-.]", "[^.]", "[a^]", "[^^]", "[^^a]", "[a-^]", "[[]", "[[a]", "[[a]]", "[a[]", "[a-[]",
		"[ ]", "[a ]", "[a- ]", "[\x00]", "[\x7f]", "[a\x7f]", "[\xff]", "[a-\xff]", "[\u00e9]", "[*]", "[+]", "[?]", "[(]", "[)]", "[|]", "[a|b]",
		`[^\x00-\xff]`, `[^\x00-\x7f\x80-\xff]`, `[^\x80-\xff\x00-\x7f]`, `[^\x01-\xffx\x00]`, `[^\x00-\xff]a`,
		"[" + strings.Repeat("a", 1<<16), strings.Repeat("[", 1<<16), "[" + strings.Repeat("a-b", 1<<16), "[" + strings.Repeat(`\x41`, 1<<14) + `\x4`,
	} {
		wantNoParse(t, s)
	}
}

// P8.1: the empty text has no class.
func TestParseEmpty(t *testing.T) { wantNoParse(t, "") }

// P8.1: what stands behind a class is none of its business, and what stands ahead of one hides it.
func TestParseMoreBehind(t *testing.T) {
	for s, want := range map[string]plain{
		"a": plainOf("a"), ".": plainRun(0, 255), `\*`: plainOf("*"), `\x0a`: plainOf("\n"), "[a-c]": plainOf("abc"), "[^a]": plainOf("a").not(), `[\]]`: plainOf("]"),
	} {
		for _, more := range []string{"", "x", "a", "-", "-z", "]", "[", "[]", "*", "|", ")", "^", `\`, `\q`, ".", " ", "\x00", "\xff", "\n", "0", s, strings.Repeat("a", 1<<16)} {
			wantParse(t, s+more, want.set(), len(s))
		}
		wantNoParse(t, " "+s)
		wantNoParse(t, "*"+s)
		wantNoParse(t, "^"+s)
		wantNoParse(t, "]"+s)
	}
}

// P8.1: a class of many parts.
func TestParseLong(t *testing.T) {
	s := "[" + strings.Repeat(`a-c\x00`, 1<<16) + "z]"
	wantParse(t, s+"z", setOf("abcz\x00"), len(s))
}

// forms are the chapter's words as regular expressions, an oracle that shares nothing with the reader.
type forms struct{ sign, part, class *regexp.Regexp }

func newForms() forms {
	var bare, marked strings.Builder
	for b := 33; b <= 126; b++ {
		if isNamedMark(byte(b)) {
			fmt.Fprintf(&marked, `\x%02x`, b)
		} else {
			fmt.Fprintf(&bare, `\x%02x`, b)
		}
	}
	sign := `(?:[` + bare.String() + `]|\\[` + marked.String() + `]|\\x[0-9a-f]{2})`
	part := `(?:` + sign + `(?:-` + sign + `)?)`
	return forms{regexp.MustCompile(sign), regexp.MustCompile(part), regexp.MustCompile(`\A(?:\.|(` + sign + `)|\[(\^?)(` + part + `+)\])`)}
}

// read tells what Parse has to: the set, how many bytes, and whether there is a class.
func (f forms) read(s string) (plain, int, bool) {
	m := f.class.FindStringSubmatch(s)
	if m == nil {
		return plain{}, 0, false
	}
	p, ok := plainRun(0, 255), true
	if m[0] != "." {
		p, ok = f.parts(m[1] + m[3])
	}
	if m[2] == "^" {
		p = p.not()
	}
	if !ok || p == (plain{}) {
		return plain{}, 0, false
	}
	return p, len(m[0]), true
}

func (f forms) parts(s string) (plain, bool) {
	var p plain
	for _, part := range f.part.FindAllString(s, -1) {
		signs := f.sign.FindAllString(part, -1)
		first, last := byteOf(signs[0]), byteOf(signs[len(signs)-1])
		if first > last {
			return plain{}, false
		}
		for b := first; b <= last; b++ {
			p[b] = true
		}
	}
	return p, true
}

func byteOf(sign string) int {
	b := int(sign[len(sign)-1])
	if len(sign) == 4 {
		fmt.Sscanf(sign, `\x%x`, &b)
	}
	return b
}

func (f forms) check(t *testing.T, s string) {
	t.Helper()
	if p, n, ok := f.read(s); ok {
		wantParse(t, s, p.set(), n)
	} else {
		wantNoParse(t, s)
	}
}

// P8.1: every text of at most five bytes of those that say something, held against the regular expressions.
func TestParseShortTexts(t *testing.T) {
	f := newForms()
	const letters = `ab[]^-.\x0`
	texts := []string{""}
	for range 5 {
		var longer []string
		for _, s := range texts {
			for i := range len(letters) {
				longer = append(longer, s+letters[i:i+1])
			}
		}
		for _, s := range longer {
			f.check(t, s)
		}
		texts = longer
	}
}

// P8.1: long texts out of pieces of classes, held against the regular expressions.
func TestParseLongTexts(t *testing.T) {
	f := newForms()
	r := rand.New(rand.NewSource(8))
	pieces := []string{"a", "c", "z", "A", "0", "-", "a-c", "!-~", "^", "[", "]", "[^", "[a", "z]", `\`, `\x`, `\x7f`, `\x00-`, `-\xff`, `\]`, `\-`, `\^`, ".", " ", "\x00", "\xff", "~"}
	found := 0
	for range 200000 {
		s := ""
		if r.Intn(8) > 0 {
			s = []string{"[", "[^"}[r.Intn(2)]
		}
		for range r.Intn(5) {
			s += pieces[r.Intn(len(pieces))]
		}
		if r.Intn(4) > 0 {
			s += "]"
		}
		f.check(t, s)
		if _, _, ok := f.read(s); ok {
			found++
		}
	}
	if found < 20000 {
		t.Errorf("only %d of them are classes", found)
	}
}

func FuzzParse(f *testing.F) {
	forms := newForms()
	for _, s := range []string{"", "a", ".", `\x0a`, "[a-c]x", `[^\x00-\xff]`, `[\--\.]`} {
		f.Add(s)
	}
	f.Fuzz(func(t *testing.T, s string) { forms.check(t, s) })
}

// plainSign is a byte's sign as Show has it.
func plainSign(b int) string {
	switch {
	case b < 33 || b > 126:
		return fmt.Sprintf(`\x%02x`, b)
	case isNamedMark(byte(b)):
		return `\` + string([]byte{byte(b)})
	}
	return string([]byte{byte(b)})
}

// show is what Show has to tell, byte by byte.
func (p plain) show() string {
	s, n := "", 0
	for b := 0; b < 256; b++ {
		if !p[b] {
			continue
		}
		last := b
		for last < 255 && p[last+1] {
			last++
		}
		s += plainSign(b)
		if last > b+1 {
			s += "-"
		}
		if last > b {
			s += plainSign(last)
		}
		n += last - b + 1
		b = last
	}
	switch {
	case n == 256:
		return "."
	case n == 1 || n == 0:
		return s
	}
	return "[" + s + "]"
}

// wantShow: it is shown so, and, but for the empty set, parsed as it was with nothing behind.
func wantShow(t *testing.T, p plain, want string) {
	t.Helper()
	set := p.set()
	if s := Show(set); s != want {
		t.Errorf("Show(%x) = %q; want %q", set, s, want)
	}
	if want != "" {
		wantParse(t, want, set, len(want))
	}
}

// P8.1: all bytes, one, runs of one, of two and of more, bytes that want a backslash, or digits, the empty set.
func TestShow(t *testing.T) {
	for want, p := range map[string]plain{
		"": {}, ".": plainRun(0, 255), "a": plainOf("a"), "~": plainOf("~"), "!": plainOf("!"),
		"[ab]": plainOf("ab"), "[a-c]": plainOf("abc"), "[a-d]": plainOf("abcd"), "[ac]": plainOf("ac"), "[adz]": plainOf("zad"), "[abde]": plainOf("abde"), "[a-ce-g]": plainOf("abcefg"), "[ac-eghj-n]": plainOf("acdeghjklmn"),
		`\\`: plainOf(`\`), `\*`: plainOf("*"), `\.`: plainOf("."), `\^`: plainOf("^"), `\-`: plainOf("-"), `[\[-\^]`: plainOf(`[\]^`), `[\\\]]`: plainOf(`\]`), `[\-\.]`: plainOf("-."), `[\(-\+\-\.\?\|]`: plainOf("()*+-.?|"),
		`\x00`: plainOf("\x00"), `\x0a`: plainOf("\n"), `\x20`: plainOf(" "), `\x7f`: plainOf("\x7f"), `\x80`: plainOf("\x80"), `\xff`: plainOf("\xff"), `[\x00\xff]`: plainOf("\x00\xff"), `[\x20!]`: plainOf(" !"), `[~\x7f]`: plainOf("~\x7f"), `[}-\x80]`: plainOf("}~\x7f\x80"), `[\x20-\x7f]`: plainRun(32, 127), "[!-~]": plainRun(33, 126),
		`[\x00-\xfe]`: plainRun(0, 254), `[\x01-\xff]`: plainRun(1, 255), "[\\x00-`b-\\xff]": plainOf("a").not(), `[\x00\x02-\xfd\xff]`: plainOf("\x01\xfe").not(),
		`[\?@]`: plainOf("?@"), `[\x7f\x80]`: plainOf("\x7f\x80"), `[\xbf\xc0]`: plainOf("\xbf\xc0"), `[\?A]`: plainOf("?A"),
	} {
		wantShow(t, p, want)
	}
}

// P8.1: every byte alone is its sign.
func TestShowBytes(t *testing.T) {
	for b := range 256 {
		wantShow(t, plainRun(b, b), plainSign(b))
		wantShow(t, plainRun(b, b).not(), plainRun(b, b).not().show())
	}
}

// P8.1: every run, and all but it.
func TestShowRuns(t *testing.T) {
	for a := range 256 {
		for b := a; b < 256; b++ {
			p := plainRun(a, b)
			wantShow(t, p, p.show())
			wantShow(t, p.not(), p.not().show())
		}
	}
}

// P8.1: every two bytes.
func TestShowTwoBytes(t *testing.T) {
	for a := range 256 {
		for b := range a {
			p := plainOf(string([]byte{byte(a), byte(b)}))
			wantShow(t, p, p.show())
		}
	}
}

// anySet is a set by chance: of bytes one by one, or of longer and shorter runs.
func anySet(r *rand.Rand) plain {
	var p plain
	most := 1 + r.Intn(20)
	for b := r.Intn(most); b < 256; b += r.Intn(most) + 1 {
		for n := r.Intn(most); n >= 0 && b < 256; n-- {
			p[b] = true
			b++
		}
	}
	return p
}

// P8.1: sets by chance are shown as byte by byte, and parsed as they were.
func TestShowAnySets(t *testing.T) {
	r := rand.New(rand.NewSource(81))
	for range 20000 {
		p := anySet(r)
		wantShow(t, p, p.show())
	}
}

// P8.1: a byte is in a set by its own bit alone.
func TestHas(t *testing.T) {
	for a := range 256 {
		one, others := plainRun(a, a).set(), plainRun(a, a).not().set()
		for b := range 256 {
			if Has(one, byte(b)) != (a == b) || Has(others, byte(b)) != (a != b) {
				t.Errorf("of %d: %d", a, b)
			}
			if Has(api.Set{}, byte(b)) || !Has(everyByte(), byte(b)) {
				t.Errorf("of none, or of all: %d", b)
			}
		}
	}
	if !Has(api.Set{1}, 0) || !Has(api.Set{0, 1}, 64) || !Has(api.Set{1 << 63}, 63) || !Has(api.Set{3: 1 << 63}, 255) {
		t.Error("limbs")
	}
}

func checkPair(t *testing.T, a, b plain) {
	t.Helper()
	var or, and plain
	for i := range 256 {
		or[i], and[i] = a[i] || b[i], a[i] && b[i]
	}
	x, y := a.set(), b.set()
	if Or(x, y) != or.set() || And(x, y) != and.set() || Not(x) != a.not().set() {
		t.Errorf("%x, %x: Or %x, And %x, Not %x", x, y, Or(x, y), And(x, y), Not(x))
	}
	if x != a.set() || y != b.set() {
		t.Errorf("%x, %x have changed", x, y)
	}
}

// P8.1: Or, And and Not, byte by byte: of the empty set, of all bytes, of the least and the greatest, of those at the edges of limbs, of sets by chance.
func TestOrAndNot(t *testing.T) {
	r := rand.New(rand.NewSource(82))
	sets := []plain{{}, plainRun(0, 255), plainOf("\x00"), plainOf("\xff"), plainOf("\x3f\x40"), plainRun(63, 128), plainRun(64, 127), plainRun(128, 255), plainOf("abc"), plainOf("cde")}
	for range 60 {
		sets = append(sets, anySet(r))
	}
	for _, a := range sets {
		for _, b := range sets {
			checkPair(t, a, b)
		}
	}
}

// P8.1: of no bytes, of a byte twice, of all of them, in any order.
func TestOf(t *testing.T) {
	for _, l := range [][]byte{nil, {}, make([]byte, 0, 8)} {
		if s := Of(l); s != (api.Set{}) {
			t.Errorf("Of(%v) = %x", l, s)
		}
	}
	for b := range 256 {
		c := byte(b)
		for _, l := range [][]byte{{c}, {c, c}, {c, c, c}} {
			if s := Of(l); s != plainRun(b, b).set() {
				t.Errorf("Of(%v) = %x", l, s)
			}
		}
	}
	for _, s := range []string{"abc", "cba", "aab", "abcab", "\x00\xff", "\x3f\x40\x7f\x80\xbf\xc0", "zad", strings.Repeat("xy", 1<<16)} {
		if x := Of([]byte(s)); x != setOf(s) {
			t.Errorf("Of(%.40q) = %x", s, x)
		}
	}
	var all []byte
	for b := 255; b >= 0; b-- {
		all = append(all, byte(b))
	}
	if Of(all) != everyByte() {
		t.Errorf("of all: %x", Of(all))
	}
}

// R3: the list stays as it was, its spare room too.
func TestOfLeavesList(t *testing.T) {
	l := []byte("cabacdef")
	Of(l[:4])
	Of(l)
	if string(l) != "cabacdef" {
		t.Errorf("now %q", l)
	}
	s := Of(l)
	l[0], l[1] = 'y', 'z'
	if s != setOf("cabdef") {
		t.Errorf("the set goes on with the list: %x", s)
	}
}

// P8.1: the least byte, whatever stands above it; none of the empty set.
func TestLeast(t *testing.T) {
	if b, is := Least(api.Set{}); b != 0 || is {
		t.Errorf("of none: %d, %v", b, is)
	}
	r := rand.New(rand.NewSource(83))
	for b := range 256 {
		for _, p := range []plain{plainRun(b, b), plainRun(b, 255), plainRun(b, min(b+1, 255))} {
			wantLeast(t, p, b)
		}
		for range 50 {
			p := anySet(r)
			for i := range b {
				p[i] = false
			}
			p[b] = true
			wantLeast(t, p, b)
		}
	}
}

func wantLeast(t *testing.T, p plain, want int) {
	t.Helper()
	if b, is := Least(p.set()); int(b) != want || !is {
		t.Errorf("Least(%x) = %d, %v; want %d", p.set(), b, is, want)
	}
}

// R3, R4: a call tells the same again, and what it is handed stays as it was.
func TestAgain(t *testing.T) {
	r := rand.New(rand.NewSource(84))
	for range 500 {
		p := anySet(r)
		set := p.set()
		first := Show(set)
		Not(set)
		Least(set)
		Has(set, 7)
		if Show(set) != first || set != p.set() {
			t.Errorf("%x: %q, then %q", p.set(), first, Show(set))
		}
	}
	if !slices.Equal(runsOf(setOf("abx")), []run{{'a', 'b'}, {'x', 'x'}}) {
		t.Error("runs")
	}
}
