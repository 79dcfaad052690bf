package tests

import (
	"fmt"
	"regexp"
	"slices"
	"strings"
	"sync"
	"testing"

	"loop.example/g00261/impl"
)

// clerk does lines by words: its names are told by their whole paths, its system block by block.
type clerk struct {
	names roll
	disk  estate
}

func newClerk() clerk {
	return clerk{rollIn(""), estateIn("2 ##" + strings.Repeat(".", 38))}
}

// lineShape is how a whole line looks, and what is answered to it.
type lineShape struct {
	look   *regexp.Regexp
	answer func(c *clerk, parts []string) string
}

// lineShapes reads of each row PATH, NAME and NUMBER as what stands in the document.
var lineShapes = sync.OnceValue(func() []lineShape {
	var l []lineShape
	add := func(row string, answer func(c *clerk, parts []string) string) {
		look := strings.NewReplacer("PATH", `([^ ]+)`, "NAME", `([^ ]+)`, "NUMBER", `(0|[1-9][0-9]{0,8})`, "TEXT", `(.*)`).Replace(row)
		l = append(l, lineShape{regexp.MustCompile(`(?s)\A` + look + `\z`), answer})
	}
	add("(make|mkdir|unlink|rmdir) PATH", (*clerk).doOp)
	add("(link|rename) PATH PATH", (*clerk).doOp)
	add("list PATH", (*clerk).list)
	add("paths", func(c *clerk, _ []string) string { return "paths " + strings.Join(c.names.all(), " ") })
	add("write NAME NUMBER NUMBER", (*clerk).write)
	add("cut NAME NUMBER", (*clerk).cut)
	add("remove NAME", (*clerk).remove)
	add("map NAME", (*clerk).tellMap)
	add("check", func(c *clerk, _ []string) string {
		return map[bool]string{true: "right", false: "wrong"}[c.disk.isRight()]
	})
	add("ham NUMBER", hamByWords)
	add("mend NUMBER", mendByWords)
	add("cuts TEXT", cutsLineByWords)
	add("squeeze TEXT", squeezeLineByWords)
	return l
})

func (c *clerk) answer(line string) string {
	for _, shape := range lineShapes() {
		if parts := shape.look.FindStringSubmatch(line); parts != nil {
			return shape.answer(c, parts[1:])
		}
	}
	return "what"
}

func (c *clerk) doOp(parts []string) string {
	names, code := c.names.play(opIn(strings.Join(parts, " ")))
	if code != 0 {
		return fmt.Sprint("no ", code)
	}
	c.names = names
	return "ok"
}

func (c *clerk) list(parts []string) string {
	path := parts[0]
	_, code := c.names.walk(path)
	if code == impl.ErrNone && !c.names.isDir(path) {
		code = impl.ErrNotDir
	}
	if code != impl.ErrNone {
		return fmt.Sprint("no ", code)
	}
	answer := "names"
	for _, x := range c.names.within(path) {
		answer += " " + x.Name + map[bool]string{true: "/"}[c.names.dirs[x.File]]
	}
	return answer
}

func (c *clerk) becomes(disk estate, ok bool) string {
	if !ok {
		return "no"
	}
	c.disk = disk
	free := slices.DeleteFunc(slices.Clone(disk.free), func(is bool) bool { return !is })
	return fmt.Sprint("free ", len(free))
}

func (c *clerk) write(parts []string) string {
	return c.becomes(c.disk.write(parts[0], numberIn(parts[1]), numberIn(parts[2])))
}

func (c *clerk) cut(parts []string) string {
	return c.becomes(c.disk.cut(parts[0], numberIn(parts[1])))
}

func (c *clerk) remove(parts []string) string {
	return c.becomes(c.disk.remove(parts[0]))
}

func (c *clerk) tellMap(parts []string) string {
	f, is := c.disk.files[parts[0]]
	if !is {
		return "no"
	}
	answer := "map"
	for _, p := range f.spots.laid().Pieces {
		answer += fmt.Sprintf(" %d:%d+%d", p.From, p.At, p.Long)
	}
	return answer
}

func hamByWords(_ *clerk, parts []string) string {
	for w := range allWords {
		if n := numberIn(parts[0]); n < 256 && isWordOf(w, n) {
			return fmt.Sprint("word ", w)
		}
	}
	return "no"
}

// mendByWords turns no bit, and each one, till it is a word.
func mendByWords(_ *clerk, parts []string) string {
	w := numberIn(parts[0])
	if w >= allWords {
		return "no"
	}
	for turned := -1; turned < bitsOfWord; turned++ {
		for n := range 256 {
			if turned < 0 && isWordOf(w, n) {
				return fmt.Sprint("byte ", n, " 0")
			}
			if turned >= 0 && isWordOf(w^1<<turned, n) {
				return fmt.Sprint("byte ", n, " 1")
			}
		}
	}
	return "byte 0 2"
}

func cutsLineByWords(_ *clerk, parts []string) string {
	if len(parts[0]) > 400 {
		return "no"
	}
	answer := "cuts"
	for _, cut := range cutsByWords(parts[0]) {
		answer += fmt.Sprint(" ", cut)
	}
	return answer
}

func squeezeLineByWords(_ *clerk, parts []string) string {
	if len(parts[0]) > 600 {
		return "no"
	}
	return fmt.Sprint("bytes ", len(packedByWords(tokensByWords(parts[0]))))
}

func isScriptByWords(text string) bool {
	return len(text) <= 2500 && strings.Count(text, "\n") <= 80 && (text == "" || strings.HasSuffix(text, "\n"))
}

// scriptByWords is of a script: its answers, and the clerk in the end.
func scriptByWords(text string) ([]string, clerk) {
	var answers []string
	c := newClerk()
	for line := range strings.Lines(text) {
		answers = append(answers, c.answer(strings.TrimSuffix(line, "\n")))
	}
	return answers, c
}

func asLines(l ...string) string {
	text := ""
	for _, line := range l {
		text += line + "\n"
	}
	return text
}

func wantNoScript(t *testing.T, text string) {
	t.Helper()
	if got := impl.RunFiles(text); got != "" {
		t.Fatalf("RunFiles of %.200q: got %.200q, want nothing", text, got)
	}
	names, disk, ok := impl.FilesOf(text)
	if ok || !sameTreeOfNames(names, impl.Names{}) || !sameSystem(disk, impl.System{}) {
		t.Fatalf("FilesOf of %.200q: got %v %v %v, want the zero answer", text, names, disk, ok)
	}
}

func wantAnswers(t *testing.T, text string, want []string) {
	t.Helper()
	got := impl.RunFiles(text)
	if strings.Count(got, "\n") != strings.Count(text, "\n") {
		t.Fatalf("RunFiles of %q: got %q, which has not as many lines", text, got)
	}
	lines := strings.Split(text, "\n")
	for i, answer := range strings.Split(strings.TrimSuffix(got, "\n"), "\n") {
		if i < len(want) && answer != want[i] {
			t.Fatalf("RunFiles of %q: line %d, %q: got %q, want %q", text, i, lines[i], answer, want[i])
		}
	}
	if got != asLines(want...) {
		t.Fatalf("RunFiles of %q: got %q, want %q", text, got, asLines(want...))
	}
}

// wantFiles: they are those, good and right.
func wantFiles(t *testing.T, text string, wantNames impl.Names, wantDisk impl.System) {
	t.Helper()
	names, disk, ok := impl.FilesOf(text)
	wantTreeOfNames(t, fmt.Sprintf("FilesOf of %q", text), names, wantNames)
	wantSystem(t, fmt.Sprintf("FilesOf of %q", text), disk, ok, wantDisk)
	wantChecked(t, disk, true)
	if !impl.GoodNames(names) {
		t.Fatalf("FilesOf of %q: got %v, which are not good", text, names)
	}
}

// checkScript: what is no script has the zero answer; of a script it is what the words say.
func checkScript(t *testing.T, text string) bool {
	t.Helper()
	if !isScriptByWords(text) {
		wantNoScript(t, text)
		return false
	}
	answers, c := scriptByWords(text)
	wantAnswers(t, text, answers)
	wantFiles(t, text, c.names.laid(), c.disk.laid())
	return true
}

// didByFunctions does lines one by one by the functions of chapters 13 and 17, those alone that are as told.
func didByFunctions(t *testing.T, l []string) (impl.Names, impl.System) {
	t.Helper()
	names := impl.NewNames()
	disk, ok := impl.NewSystem(40, 2)
	if !ok {
		t.Fatal("NewSystem is refused")
	}
	for _, line := range l {
		words := strings.Split(line, " ")
		next, ok := disk, false
		switch words[0] {
		case "make", "mkdir", "link", "unlink", "rmdir", "rename":
			names, _ = impl.DoName(names, opIn(line))
		case "write":
			next, ok = impl.WriteFile(disk, words[1], numberIn(words[2]), numberIn(words[3]))
		case "cut":
			next, ok = impl.CutFile(disk, words[1], numberIn(words[2]))
		case "remove":
			next, ok = impl.RemoveFile(disk, words[1])
		}
		if ok {
			disk = next
		}
	}
	return names, disk
}

// someTypedPath is one of few, so that many are there; some are none.
func someTypedPath(s *steps) string {
	if s.below(25) == 0 {
		return []string{"a", "/a/", "//", "/A", "/a//b", "/abcdefghijklm", "\xff", "/a\x00"}[s.below(8)]
	}
	names := 1 + s.below(2)
	if s.below(8) == 0 {
		names = s.below(10)
	}
	path := ""
	for range names {
		path += "/" + someText(s, 1, 3)
	}
	return max(path, "/")
}

// someTypedFile is the name of one of more files than there may be; some are none.
func someTypedFile(s *steps) string {
	if s.below(25) == 0 {
		return []string{"A", "a/b", "/a", "abcdefghijklm", "\xff", "a\x00", "*", "a_b"}[s.below(8)]
	}
	return someNames()[s.below(13)]
}

// someLineByte is any but that behind a line.
func someLineByte(s *steps) byte {
	b := byte(s.below(255))
	if b == '\n' {
		return 255
	}
	return b
}

// someLineText has blanks, and bytes of any kind that may be in a line.
func someLineText(s *steps, long int) string {
	text := []byte(someText(s, long, 1+s.below(5)))
	for range s.below(4) * long / 8 {
		text[s.below(long)] = someLineByte(s)
	}
	return strings.ReplaceAll(string(text), "e", " ")
}

// someTold is a line as it is told.
func someTold(s *steps) string {
	switch s.below(18) {
	case 0, 1:
		return "make " + someTypedPath(s)
	case 2, 3:
		return "mkdir " + someTypedPath(s)
	case 4:
		return "unlink " + someTypedPath(s)
	case 5:
		return "rmdir " + someTypedPath(s)
	case 6:
		return "link " + someTypedPath(s) + " " + someTypedPath(s)
	case 7:
		return "rename " + someTypedPath(s) + " " + someTypedPath(s)
	case 8:
		return "list " + someTypedPath(s)
	case 9:
		return "paths"
	case 10, 11:
		return fmt.Sprint("write ", someTypedFile(s), " ", s.below(12)*s.below(18), " ", s.below(10))
	case 12:
		return fmt.Sprint("cut ", someTypedFile(s), " ", s.below(12))
	case 13:
		return "remove " + someTypedFile(s)
	case 14:
		return "map " + someTypedFile(s)
	case 15:
		return fmt.Sprint("ham ", s.below(280))
	case 16:
		return fmt.Sprint("mend ", s.below(8400))
	}
	return []string{"check", "cuts " + someLineText(s, s.below(60)), "squeeze " + someLineText(s, s.below(60))}[s.below(3)]
}

// someWrong is a line with a word too few or too many, a blank too many, another byte or a number that is none.
func someWrong(s *steps) string {
	line := someTold(s)
	at := s.below(len(line) + 1)
	switch s.below(6) {
	case 0:
		return line[:at]
	case 1:
		return line[:at] + " " + line[at:]
	case 2:
		return line + []string{" ", " a", " 1", " /a", "\r", "\t"}[s.below(6)]
	case 3:
		return line[:at] + string([]byte{someLineByte(s)}) + line[at:]
	case 4:
		return line[:at] + "0" + line[at:]
	}
	return []string{"", " ", "fly", "Make /a", "help", "0", "/a"}[s.below(7)]
}

// someLines are so many, of so many bytes at most.
func someLines(s *steps, many int, bytes int) []string {
	var l []string
	for range many {
		line := someTold(s)
		if s.below(10) == 0 {
			line = someWrong(s)
		}
		if bytes -= len(line) + 1; bytes < 0 {
			return l
		}
		l = append(l, line)
	}
	return l
}

// The first lines are answered likewise whatever lines follow, also such as are answered `what`.
func TestAnswersDoNotHangOnWhatFollows(t *testing.T) {
	for seed := range 40 {
		s := steps(1800 + seed)
		l := someLines(&s, 40+s.below(41), 2500)
		all := impl.RunFiles(asLines(l...))
		ends := []int{0}
		for i, c := range []byte(all) {
			if c == '\n' {
				ends = append(ends, i+1)
			}
		}
		if len(ends) != len(l)+1 {
			t.Fatalf("%d lines of %q: got %q", len(l), l, all)
		}
		for many := range len(l) + 1 {
			first := asLines(l[:many]...)
			if got := impl.RunFiles(first); got != all[:ends[many]] {
				t.Fatalf("%q alone: got %q, ahead of others %q", first, got, all[:ends[many]])
			}
			other := first + asLines(someLines(&s, 80-many, 2500-len(first))...)
			if got := impl.RunFiles(other); !strings.HasPrefix(got, all[:ends[many]]) {
				t.Fatalf("%q: got %q, which does not begin with %q", other, got, all[:ends[many]])
			}
		}
	}
}

// A text with a line too many is no script, though its first lines are one.
func TestOneLineMoreIsAnsweredByOneLineMore(t *testing.T) {
	s := steps(1850)
	l := someLines(&s, 80, 2400)
	for len(l) < 80 {
		l = append(l, "fly")
	}
	for many := range 81 {
		text := asLines(l[:many]...)
		checkScript(t, text)
		for _, end := range []string{"check", "\n", " ", "x"} {
			checkScript(t, text+end)
		}
	}
}

func TestFilesAreWhatTheLinesMakeOneByOne(t *testing.T) {
	for seed := range 60 {
		s := steps(1860 + seed)
		var l []string
		for bytes := 2500; len(l) < 80; {
			line := someTold(&s)
			if bytes -= len(line) + 1; bytes < 0 {
				break
			}
			l = append(l, line)
			names, disk := didByFunctions(t, l)
			wantFiles(t, asLines(l...), names, disk)
		}
	}
}

// kindOfAnswer is the line's first word and the answer's, with the code where it is refused.
func kindOfAnswer(line string, answer string) string {
	word, _, _ := strings.Cut(line, " ")
	said, _, isMore := strings.Cut(answer, " ")
	switch {
	case said == "no":
		said = answer
	case said == "names" && !isMore, said == "map" && !isMore:
		said += ", empty"
	}
	return word + ": " + said
}

// Scripts of many lines of every kind are answered as the words say, each kind in each of its ways.
func TestScriptsInNoOrder(t *testing.T) {
	met := map[string]int{}
	for seed := range 500 {
		s := steps(1900 + seed)
		l := someLines(&s, 80, 2500)
		checkScript(t, asLines(l...))
		answers, _ := scriptByWords(asLines(l...))
		for i, answer := range answers {
			met[kindOfAnswer(l[i], answer)]++
		}
	}
	wantMet(t, met, 10,
		"make: ok", "make: no 1", "make: no 2", "make: no 3", "make: no 4", "make: no 7", "mkdir: ok", "mkdir: no 1", "mkdir: no 2", "mkdir: no 3", "mkdir: no 4", "mkdir: no 7",
		"unlink: ok", "unlink: no 1", "unlink: no 2", "unlink: no 4", "unlink: no 5", "unlink: no 7", "rmdir: ok", "rmdir: no 1", "rmdir: no 2", "rmdir: no 4", "rmdir: no 6", "rmdir: no 7",
		"link: ok", "link: no 1", "link: no 2", "link: no 3", "link: no 4", "link: no 5", "link: no 7", "rename: ok", "rename: no 1", "rename: no 2", "rename: no 4", "rename: no 5", "rename: no 7",
		"list: names", "list: names, empty", "list: no 1", "list: no 2", "list: no 4", "paths: paths", "write: free", "write: no", "cut: free", "cut: no", "remove: free", "remove: no", "map: map", "map: no",
		"check: right", "ham: word", "ham: no", "mend: byte", "mend: no", "cuts: cuts", "squeeze: bytes", "make: what", "link: what", "write: what", "ham: what", "fly: what",
	)
}

func wantMet(t *testing.T, met map[string]int, least int, l ...string) {
	t.Helper()
	for _, what := range l {
		if met[what] < least {
			t.Errorf("%s: met %d times", what, met[what])
		}
	}
}
