package tests

import (
	"fmt"
	"slices"
	"strings"
	"testing"

	"loop.example/g00261/impl"
)

func TestConstantsOfScripts(t *testing.T) {
	if impl.MaxScript != 2500 || impl.MaxLines != 80 {
		t.Error("limits")
	}
}

// wantSays takes lines, each with its answer behind it.
func wantSays(t *testing.T, pairs ...string) {
	t.Helper()
	var lines, answers []string
	for pair := range slices.Chunk(pairs, 2) {
		lines = append(lines, pair[0])
		answers = append(answers, pair[1])
	}
	wantAnswers(t, asLines(lines...), answers)
	checkScript(t, asLines(lines...))
}

// wantWhat: each line is answered so, whatever is there, and changes nothing.
func wantWhat(t *testing.T, l ...string) {
	t.Helper()
	for _, line := range l {
		wantSays(t, line, "what")
		wantSays(t, "mkdir /a", "ok", "write x 0 3", "free 35", line, "what", "paths", "paths / /a", "map x", "map 0:2+3", line, "what")
	}
}

func TestAScriptOfNothing(t *testing.T) {
	wantAnswers(t, "", nil)
	wantFiles(t, "", impl.NewNames(), systemIn("2 ##"+strings.Repeat(".", 38)))
	checkScript(t, "")
}

// padded is a line as told, and behind it one of so many bytes that the text has that many.
func padded(line string, bytes int) string {
	return asLines(line, strings.Repeat("x", bytes-len(line)-2))
}

func TestScriptsOfMaxScriptBytes(t *testing.T) {
	for bytes := 2495; bytes <= 2505; bytes++ {
		for _, text := range []string{strings.Repeat("x", bytes-1) + "\n", padded("mkdir /a", bytes), padded("write a 0 3", bytes)} {
			if len(text) != bytes || checkScript(t, text) != (bytes <= 2500) {
				t.Errorf("a text of %d bytes, %d lines", len(text), strings.Count(text, "\n"))
			}
		}
	}
	wantAnswers(t, padded("mkdir /a", 2500), []string{"ok", "what"})
	wantFiles(t, padded("mkdir /a", 2500), treeOfNames("/a/"), systemIn("2 ##"+strings.Repeat(".", 38)))
	wantNoScript(t, padded("mkdir /a", 2501))
	wantNoScript(t, strings.Repeat("x", 2501))
	wantNoScript(t, strings.Repeat("x", 2500))
	wantNoScript(t, strings.Repeat("check\n", 400000))
	long := strings.Repeat(strings.Repeat("x", 49)+"\n", 50)
	wantAnswers(t, long, slices.Repeat([]string{"what"}, 50))
	wantNoScript(t, "\n"+long)
}

func TestScriptsOfMaxLines(t *testing.T) {
	for many := range 84 {
		for _, line := range []string{"", "check", "mkdir /a"} {
			text := strings.Repeat(line+"\n", many)
			if checkScript(t, text) != (many <= 80) {
				t.Errorf("a text of %d lines", many)
			}
		}
	}
	wantAnswers(t, strings.Repeat("check\n", 80), slices.Repeat([]string{"right"}, 80))
	wantNoScript(t, strings.Repeat("check\n", 81))
	wantNoScript(t, strings.Repeat("check\n", 80)+"check")
	wantNoScript(t, strings.Repeat("check\n", 80)+"\n")
	wantNoScript(t, strings.Repeat("\n", 81))
	wantNoScript(t, strings.Repeat("\n", 2500))
}

func TestALastLineWithoutAnEnd(t *testing.T) {
	for _, text := range []string{"check", "mkdir /a\ncheck", "\ncheck", "\n ", " ", "x", "check\nc", "\x00", "\r", "check\r", "check\n\r", "check\n\x00", "cuts ", "squeeze a\ncuts ", "\xff"} {
		wantNoScript(t, text)
		if checkScript(t, text) || !checkScript(t, text+"\n") {
			t.Errorf("%q", text)
		}
	}
}

func TestEmptyLines(t *testing.T) {
	wantSays(t, "", "what")
	wantSays(t, "", "what", "", "what", "", "what")
	wantSays(t, "mkdir /a", "ok", "", "what", "paths", "paths / /a", "", "what")
	wantWhat(t, "")
}

func TestBlanksThatAreNotBetween(t *testing.T) {
	for _, line := range []string{
		"make /b", "mkdir /b", "unlink /a", "rmdir /a", "link /a /b", "rename /a /b", "list /", "paths", "write y 0 3", "cut x 1", "remove x", "map x", "check", "ham 1", "mend 15",
	} {
		wantWhat(t, " "+line, line+" ", "  "+line, line+"  ", " "+line+" ")
		for at := range len(line) {
			if line[at] == ' ' {
				wantWhat(t, line[:at]+" "+line[at:], line[:at]+"  "+line[at:], line[:at]+"\t"+line[at+1:], line[:at]+line[at+1:], line[:at]+"\x00"+line[at+1:])
			}
		}
	}
	wantWhat(t, " ", "  ", "   ", " cuts a", " squeeze a", "  cuts a", " cuts", "\tcheck", "check\t", "check\r", "\rcheck", "\u00a0check", "check\u00a0", "make\u00a0/b", "cuts\u00a0a", "cuts\ta", "squeeze\ta")
	wantWhat(t, "make ", "mkdir ", "unlink ", "rmdir ", "list ", "link /a ", "rename /a ", "link  ", "rename  /a", "remove ", "map ", "write  0 3", "cut  1", "write x  3", "write x 0 ", "cut x ", "ham ", "mend ", "paths ", "check ")
}

func TestWordsThatAreNotTold(t *testing.T) {
	wantWhat(t,
		"fly", "fly /a", "help", "what", "ok", "no", "Make /b", "MAKE /b", "Check", "CHECK", "makes /b", "mak /b", "mkdi /b", "mkdirs /b", "remove-x", "ls /", "rm x", "mv /a /b", "touch /b", "path", "pathss", "list/", "lists /", "check1", "checks", "maps x", "hams 1", "hammer 1", "men 15",
		"cut", "cutss a", "CUTS a", "squeez a", "squeezes a", "free", "names", "right", "word 1", "byte 1 0", "bytes 8", "0", "1 2 3", "/a", "/", "x", "\x00", "\xff", "make/b", "wr\x00te x 0 3", "check\x00", "chéck", "ｃheck", "\ufeffcheck",
	)
}

func TestAWordTooFewAndAWordTooMany(t *testing.T) {
	wantWhat(t,
		"make", "make /b /c", "mkdir", "mkdir /b /c", "unlink", "unlink /a /a", "rmdir", "rmdir /a /a", "link", "link /a", "link /a /b /c", "rename", "rename /a", "rename /a /b /c", "list", "list / /",
		"paths /", "paths a", "paths 1", "write", "write y", "write y 0", "write y 0 3 4", "write 0 3", "cut", "cut x", "cut x 1 1", "cut 1", "remove", "remove x x", "map", "map x x", "check x", "check 1", "check check",
		"ham", "ham 1 1", "mend", "mend 15 15", "cuts", "squeeze", "make /b 1", "remove x 0", "map x 0",
	)
}

func TestTextsBehindABlank(t *testing.T) {
	wantSays(t, "cuts ", "cuts", "squeeze ", "bytes 0")
	wantSays(t, "cuts  ", "cuts 1", "squeeze  ", "bytes 2", "cuts   ", "cuts 2", "squeeze   ", "bytes 3")
	wantSays(t, "cuts a", "cuts 1", "cuts a ", "cuts 2", "cuts  a", "cuts 2", "cuts a b", "cuts 3", "squeeze a", "bytes 2", "squeeze a b", "bytes 4", "squeeze  a b ", "bytes 6")
	wantSays(t, "cuts the block of a file", "cuts 9 15 19", "squeeze abcabcabcd", "bytes 8", "squeeze "+strings.Repeat("a", 67), "bytes 4", "squeeze "+strings.Repeat("a", 68), "bytes 6")
	wantSays(t, "cuts cuts", "cuts 4", "squeeze squeeze", "bytes 8", "squeeze cuts", "bytes 5", "cuts \r", "cuts 1", "squeeze \r", "bytes 2", "squeeze \x00", "bytes 2", "squeeze \xff", "bytes 2", "squeeze é", "bytes 3", "squeeze 世界", "bytes 7")
	wantWhat(t, "cuts", "squeeze")
	for b := range 256 {
		if b == '\n' {
			continue
		}
		one := string([]byte{byte(b)})
		wantSays(t, "cuts "+one, "cuts 1", "squeeze "+one, "bytes 2", "squeeze "+one+one, "bytes 3")
		for _, long := range []int{3, 4, 5, 24, 25, 50} {
			checkScript(t, asLines("cuts "+strings.Repeat(one, long), "squeeze "+strings.Repeat(one, long), "cuts ab"+one+"cd e", "squeeze ab"+one+"ab"+one))
		}
	}
}

func TestTextsAtTheirLimits(t *testing.T) {
	s := steps(181)
	for _, kinds := range []int{1, 3, 26} {
		for long := 398; long <= 403; long++ {
			text := someText(&s, long, kinds)
			got := impl.RunFiles("cuts " + text + "\n")
			if (got == "no\n") != (long > 400) || !strings.HasPrefix(got, "cuts ") && long <= 400 {
				t.Errorf("cuts of %d bytes: got %q", long, got)
			}
			checkScript(t, asLines("cuts "+text, "check"))
		}
		for long := 598; long <= 603; long++ {
			text := someText(&s, long, kinds)
			got := impl.RunFiles("squeeze " + text + "\n")
			if (got == "no\n") != (long > 600) || !strings.HasPrefix(got, "bytes ") && long <= 600 {
				t.Errorf("squeeze of %d bytes: got %q", long, got)
			}
			checkScript(t, asLines("squeeze "+text, "check"))
		}
	}
	wantSays(t, "cuts "+strings.Repeat("a", 401), "no", "squeeze "+strings.Repeat("a", 601), "no", "check", "right")
	wantSays(t, "squeeze "+strings.Repeat(" ", 600), "bytes 22", "squeeze "+strings.Repeat(" ", 601), "no")
}

func TestNumbersAtTheEdges(t *testing.T) {
	wantSays(t, "ham 0", "word 0", "ham 1", "word 15", "ham 9", fmt.Sprint("word ", wordByTrial(t, 9)), "ham 10", fmt.Sprint("word ", wordByTrial(t, 10)), "ham 255", fmt.Sprint("word ", wordByTrial(t, 255)), "ham 256", "no", "ham 257", "no", "ham 100000000", "no", "ham 999999999", "no")
	wantSays(t, "mend 8191", "byte 127 1", "mend 8192", "no", "mend 8193", "no", "mend 100000000", "no", "mend 999999999", "no")
	for _, number := range notNumbers() {
		wantWhat(t, "ham "+number, "mend "+number, "cut x "+number, "write y "+number+" 1", "write y 1 "+number, "write y "+number+" "+number)
	}
	wantSays(t, "write x 999999999 1", "no", "write x 0 999999999", "no", "write x 999999999 999999999", "no", "write x 199 1", "free 37", "cut x 999999999", "no", "cut x 200", "free 37", "map x", "map 199:2+1")
}

// notNumbers are words, and words that are cut by blanks.
func notNumbers() []string {
	l := []string{
		"", "00", "01", "007", "0000000001", "000000000", "1234567890", "1000000000", "4294967296", "9999999999", "18446744073709551617", "9223372036854775808", strings.Repeat("1", 100), strings.Repeat("0", 9), "+1", "-1", "-0", "+0", "1+", "1-", "0x1", "1e1", "1.0", "1.", ".1", "1,0", "1_0", "0b1", "0o1", "a", "1a", "a1", "one",
		" 1", "1 ", "1 1", "\t1", "1\t", "1\r", "1\x00", "\x001", "١", "１", "1１", "१", "\xb1", "1\xff", "\xff1", "\xff", "𝟙", "¹", "½", "/", ":", "0/", "0:",
	}
	for b := range 256 {
		if (b < '0' || b > '9') && b != '\n' {
			l = append(l, string([]byte{byte(b)}), string([]byte{'1', byte(b)}), string([]byte{'1', byte(b), '1'}))
		}
	}
	return l
}

func TestNumbersOfEachLength(t *testing.T) {
	for digits := 1; digits <= 12; digits++ {
		for _, number := range []string{strings.Repeat("1", digits), "1" + strings.Repeat("0", digits-1), strings.Repeat("9", digits)} {
			got := impl.RunFiles("ham " + number + "\n")
			if (got == "what\n") != (digits > 9) || (got == "no\n") != (digits > 2 && digits < 10 && number != "111" && number != "100") {
				t.Errorf("ham %s: got %q", number, got)
			}
			checkScript(t, asLines("ham "+number, "mend "+number, "write a "+number+" 1", "write b 1 "+number, "cut b "+number))
		}
	}
	for n := range 300 {
		checkScript(t, asLines(fmt.Sprint("ham ", n), fmt.Sprint("ham 0", n), fmt.Sprint("mend ", 28*n), fmt.Sprint("write a ", n, " 1"), fmt.Sprint("write b 0 ", n), fmt.Sprint("cut a ", n)))
	}
}

func TestHamAndMendByHand(t *testing.T) {
	wantSays(t, "ham 0", "word 0", "ham 1", "word 15", "mend 0", "byte 0 0", "mend 15", "byte 1 0", "mend 14", "byte 1 1", "mend 7", "byte 1 1", "mend 12", "byte 0 2", "mend 1", "byte 0 1", "mend 2", "byte 0 1", "mend 4096", "byte 0 1", "mend 3", "byte 0 2", "mend 4097", "byte 0 2")
	for _, n := range []int{0, 1, 'a', 170, 254, 255} {
		w := wordByTrial(t, n)
		lines := []string{fmt.Sprint("ham ", n), fmt.Sprint("word ", w), fmt.Sprint("mend ", w), fmt.Sprint("byte ", n, " 0")}
		for one := range bitsOfWord {
			lines = append(lines, fmt.Sprint("mend ", w^1<<one), fmt.Sprint("byte ", n, " 1"), fmt.Sprint("mend ", w^1<<one^1<<((one+5)%bitsOfWord)), "byte 0 2")
		}
		wantSays(t, lines...)
	}
	for from := 0; from < 256; from += 64 {
		var l []string
		for n := range 64 {
			l = append(l, fmt.Sprint("ham ", from+n))
		}
		checkScript(t, asLines(l...))
	}
}

func TestMakeLinesByHand(t *testing.T) {
	wantSays(t, "make /a", "ok", "mkdir /d", "ok", "make /d/a", "ok", "mkdir /d/d", "ok", "paths", "paths / /a /d /d/a /d/d", "list /", "names a d/", "list /d", "names a d/", "list /d/d", "names")
	for _, word := range []string{"make", "mkdir"} {
		for _, path := range []string{"a", "//", "/a/", "/A", "a/b", "/a//b", "/abcdefghijklm", "\xff", "/a\x00", strings.Repeat("/a", 9), "1", "-", "/a_b", "..", "/é"} {
			wantSays(t, word+" "+path, "no 1", "paths", "paths /")
		}
		wantSays(t, "make /a", "ok", word+" /x/y", "no 2", word+" /a", "no 3", word+" /a/b", "no 4", word+" /", "no 7", word+" /x", "ok", word+" /x", "no 3", word+" /abcdefghijkl", "ok", word+" /..", "ok", word+" /-", "ok", "paths", "paths / /- /.. /a /abcdefghijkl /x")
	}
}

// fullOf makes as many names as a directory may have.
func fullOf(dir string) []string {
	var l []string
	for i := range 20 {
		l = append(l, fmt.Sprintf("make %s/n%d", dir, i), "ok")
	}
	return l
}

func TestLinesOfWhatIsFull(t *testing.T) {
	full := slices.Concat([]string{"mkdir /d", "ok"}, fullOf("/d"))
	wantSays(t, slices.Concat(full, []string{
		"make /d/x", "no 8", "mkdir /d/x", "no 8", "make /d/n0", "no 3", "make /f", "ok", "link /f /d/x", "no 8", "rename /f /d/x", "no 8", "rename /d/n1 /d/x", "ok", "rename /f /d/n0", "ok", "unlink /d/n2", "ok", "make /d/x", "no 3", "make /d/y", "ok",
	})...)
	wantSays(t, slices.Concat(full, []string{"mkdir /e", "ok"}, fullOf("/e"), []string{"mkdir /f", "ok"}, fullOf("/f")[:30], []string{
		"make /g", "ok", "mkdir /f/y", "no 8", "make /y", "no 8", "mkdir /y", "no 8", "make /g", "no 3", "link /g /y", "ok", "unlink /g", "ok", "make /x", "no 8", "unlink /y", "ok", "make /x", "ok",
	})...)
	deep := []string{}
	for names := range 8 {
		deep = append(deep, "mkdir "+strings.Repeat("/a", names+1), "ok")
	}
	wantSays(t, slices.Concat(deep, []string{
		"mkdir /b", "ok", "make /b/f", "ok", "rename /b " + strings.Repeat("/a", 7) + "/b", "no 8", "rename /b/f " + strings.Repeat("/a", 7) + "/b", "ok", "mkdir " + strings.Repeat("/a", 9), "no 1", "list " + strings.Repeat("/a", 8), "names", "list " + strings.Repeat("/a", 7), "names a/ b",
	})...)
}

func TestLinkAndUnlinkLinesByHand(t *testing.T) {
	wantSays(t, "make /a", "ok", "mkdir /d", "ok", "link /a /d/b", "ok", "paths", "paths / /a /d /d/b", "unlink /a", "ok", "paths", "paths / /d /d/b", "link /d/b /a", "ok", "unlink /d/b", "ok", "unlink /a", "ok", "paths", "paths / /d")
	wantSays(t, "make /a", "ok", "mkdir /d", "ok", "unlink a", "no 1", "unlink /a/", "no 1", "unlink /x", "no 2", "unlink /x/y", "no 2", "unlink /d/x", "no 2", "unlink /a/x", "no 4", "unlink /d", "no 5", "unlink /", "no 7", "paths", "paths / /a /d")
	wantSays(t, "make /a", "ok", "mkdir /d", "ok", "link a /b", "no 1", "link /a b", "no 1", "link /a /b/", "no 1", "link a b", "no 1", "link /x /y", "no 2", "link /x/y /b", "no 2", "link /a /x/y", "no 2", "link /a /d", "no 3", "link /a /a", "no 3", "link /a/x /b", "no 4", "link /a /a/x", "no 4", "link /d /b", "no 5", "link /d /a", "no 5", "link / /b", "no 7", "link /a /", "no 7", "paths", "paths / /a /d")
}

func TestRmdirLinesByHand(t *testing.T) {
	wantSays(t, "mkdir /d", "ok", "mkdir /d/e", "ok", "make /a", "ok", "rmdir d", "no 1", "rmdir /d/", "no 1", "rmdir /x", "no 2", "rmdir /x/y", "no 2", "rmdir /a", "no 4", "rmdir /a/x", "no 4", "rmdir /d", "no 6", "rmdir /", "no 7", "rmdir /d/e", "ok", "rmdir /d/e", "no 2", "rmdir /d", "ok", "paths", "paths / /a")
}

func TestRenameLinesByHand(t *testing.T) {
	start := []string{"mkdir /d", "ok", "mkdir /e", "ok", "make /e/f", "ok", "make /a", "ok"}
	refused := []string{
		"rename a /b", "no 1", "rename /a b", "no 1", "rename /a /b/", "no 1", "rename /x /y", "no 2", "rename /x/y /b", "no 2", "rename /a /x/y", "no 2", "rename /a/x /b", "no 4", "rename /a /a/x", "no 4", "rename /d /a", "no 4", "rename /a /d", "no 5", "rename /a /e", "no 5",
		"rename /d /e", "no 6", "rename /d /d/x", "no 7", "rename /e /e/f", "no 7", "rename / /b", "no 7", "rename /a /", "no 7", "rename /a /a", "ok", "rename /d /d", "ok", "paths", "paths / /a /d /e /e/f",
	}
	wantSays(t, slices.Concat(start, refused)...)
	wantSays(t, slices.Concat(start, []string{"rename /a /e/f", "ok", "paths", "paths / /d /e /e/f", "rename /e /d", "ok", "paths", "paths / /d /d/f", "rename /d/f /g", "ok", "rename /d /abcdefghijkl", "ok", "paths", "paths / /abcdefghijkl /g"})...)
	wantSays(t, "make /a", "ok", "link /a /b", "ok", "rename /a /b", "ok", "paths", "paths / /a /b", "rename /a /c", "ok", "paths", "paths / /b /c", "list /", "names b c")
}

func TestListLinesByHand(t *testing.T) {
	wantSays(t, "list /", "names", "make /b", "ok", "mkdir /a", "ok", "mkdir /c", "ok", "link /b /a/x", "ok", "list /", "names a/ b c/", "list /a", "names x", "list /c", "names")
	wantSays(t, "make /b", "ok", "list b", "no 1", "list /b/", "no 1", "list //", "no 1", "list /x", "no 2", "list /x/y", "no 2", "list /b", "no 4", "list /b/x", "no 4", "list "+strings.Repeat("/a", 8), "no 2", "list "+strings.Repeat("/a", 9), "no 1")
}

func TestWriteLinesByHand(t *testing.T) {
	wantSays(t, "write x 0 3", "free 35", "map x", "map 0:2+3", "write y 0 2", "free 33", "map y", "map 0:5+2", "write x 2 3", "free 31", "map x", "map 0:2+3 3:7+2", "write x 0 5", "free 31", "write x 100 1", "free 30", "map x", "map 0:2+3 3:7+2 100:9+1", "check", "right")
	wantSays(t, "write A 0 3", "no", "write a/b 0 3", "no", "write abcdefghijklm 0 3", "no", "write \xff 0 3", "no", "write / 0 3", "no", "write a\x00 0 3", "no", "map A", "no", "cut A 0", "no", "remove A", "no", "write abcdefghijkl 0 3", "free 35", "write 0 0 3", "free 32", "write - 0 3", "free 29", "write . 0 3", "free 26", "map 0", "map 0:5+3")
	wantSays(t, "write x 0 0", "no", "write x 1 0", "no", "map x", "no", "write x 199 1", "free 37", "write x 199 2", "no", "write x 200 1", "no", "write x 200 0", "no", "write x 0 200", "no", "write x 0 201", "no", "map x", "map 199:2+1", "write x 0 0", "no")
	wantSays(t, "write x 0 38", "free 0", "map x", "map 0:2+38", "write y 0 1", "no", "map y", "no", "write x 38 1", "no", "write x 0 38", "free 0", "write x 5 7", "free 0", "check", "right", "cut x 37", "free 1", "write y 3 1", "free 0", "map y", "map 3:39+1", "remove x", "free 37", "write z 0 38", "no", "write z 0 37", "free 0")
	wantSays(t, "write x 0 39", "no", "map x", "no", "write x 0 38", "free 0", "remove x", "free 38", "remove x", "no", "map x", "no", "cut x 0", "no")
}

func TestCutRemoveAndMapLinesByHand(t *testing.T) {
	wantSays(t, "write x 1 3", "free 35", "cut x 5", "no", "cut x 4", "free 35", "cut x 3", "free 36", "map x", "map 1:2+2", "cut x 4", "no", "cut x 0", "free 38", "map x", "map", "cut x 0", "free 38", "cut x 1", "no", "write x 0 1", "free 37", "remove x", "free 38", "map x", "no")
	wantSays(t, "cut x 0", "no", "remove x", "no", "map x", "no", "map X", "no", "remove /x", "no", "cut /x 0", "no", "map \xff", "no", "make /x", "ok", "map x", "no", "map /x", "no", "write x 0 1", "free 37", "unlink /x", "ok", "map x", "map 0:2+1", "paths", "paths /")
	wantSays(t, "write a 0 2", "free 36", "write b 0 2", "free 34", "write c 0 2", "free 32", "remove b", "free 34", "write d 0 3", "free 31", "map d", "map 0:8+3", "write a 2 3", "free 28", "map a", "map 0:2+2 2:11+3", "write e 0 2", "free 26", "map e", "map 0:4+2", "check", "right")
}

func TestAsManyFilesAsThereMayBe(t *testing.T) {
	var l []string
	for i := range 12 {
		l = append(l, fmt.Sprintf("write f%d 0 2", i), fmt.Sprint("free ", 36-2*i))
	}
	wantSays(t, slices.Concat(l, []string{"write g 0 1", "no", "map g", "no", "check", "right", "write f0 2 1", "free 13", "cut f1 0", "free 15", "write g 0 1", "no", "remove f1", "free 15", "write g 0 1", "free 14", "map g", "map 0:4+1"})...)
}

func TestPathsAndCheckByHand(t *testing.T) {
	wantSays(t, "paths", "paths /", "check", "right")
	wantSays(t, "mkdir /b", "ok", "make /b.c", "ok", "make /b/x", "ok", "mkdir /a", "ok", "paths", "paths / /a /b /b.c /b/x", "list /", "names a/ b/ b.c")
	wantWhat(t, "paths /", "paths  ", "paths x", "check /", "check  ", "check x", "paths\x00", "check\x00")
}

// What the chapter's words alone tell of the files in the end.
func TestFilesOfByHand(t *testing.T) {
	free := func(many int) string { return strings.Repeat(".", many) }
	wantFiles(t, "\n", impl.NewNames(), systemIn("2 ##"+free(38)))
	wantFiles(t, "fly\npaths\ncheck\nham 1\nmend 15\ncuts a\nsqueeze a\nlist /\nmap x\n", impl.NewNames(), systemIn("2 ##"+free(38)))
	wantFiles(t, "mkdir /a\nmake /a/f\nlink /a/f /g\nmkdir /b\nrmdir /b\nrmdir /a\n", treeOfNames("/a/ /a/f - /g=/a/f"), systemIn("2 ##"+free(38)))
	wantFiles(t, "write x 0 3\nwrite y 5 2\ncut x 1\nwrite z 0 0\n", impl.NewNames(), systemIn("2 ##x..yy"+free(33)+" | x 1 0+1@2 | y 7 5+2@5"))
	wantFiles(t, "write x 0 3\nremove x\nwrite y 0 1\ncut y 0\nmake /y\n", treeOfNames("/y"), systemIn("2 ##"+free(38)+" | y 0"))
}
