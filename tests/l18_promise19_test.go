package tests

import (
	"slices"
	"strings"
	"testing"

	"loop.example/g00261/impl"
)

// goodScripts leave names and files of many kinds.
func goodScripts() []string {
	return []string{
		"", "\n", asLines("mkdir /a"), asLines("write a 0 3"), asLines("write a 0 3", "remove a"), asLines("write a 0 38", "cut a 0"),
		asLines("mkdir /a", "make /a/f", "make /a/g", "mkdir /a/b", "make /a/b/f", "link /a/f /a/b/g", "mkdir /c", "make /d", "write x 0 3", "write y 0 2", "write x 5 2", "write z 9 1", "cut y 1", "write w 0 9", "write v 0 0", "cut z 0"),
		asLines("make /a", "make /b", "unlink /a", "rename /b /c", "mkdir /d", "rename /c /d/c", "rename /d /e", "write a 0 1", "write b 0 1", "write a 1 1", "write b 1 1", "write a 2 1", "write b 2 1", "remove a", "write c 0 9", "list /", "paths", "map c", "check", "ham 1", "mend 15", "cuts abc", "squeeze abc", "fly"),
	}
}

// notScripts are no scripts, each in one way or more.
func notScripts() []string {
	l := []string{
		"x", " ", "check", "\x00", "\xff", "\r", "check\r", "\n\n\nx", "check\ncheck", strings.Repeat("\n", 81), strings.Repeat("check\n", 81), strings.Repeat("x", 2500), strings.Repeat("x", 2500) + "\n", strings.Repeat("x\n", 1251),
		strings.Repeat("\n", 1000000), strings.Repeat("x", 1000000), strings.Repeat("check\n", 200000), strings.Repeat("x", 1000000) + "\n", strings.Repeat("cuts ", 600), allBytes(256), allBytes(2500) + "x",
	}
	for _, text := range goodScripts() {
		if text != "" {
			l = append(l, strings.TrimSuffix(text, "\n")+"x", text+"x", text+" ", text+strings.Repeat("\n", 81), text+strings.Repeat("x", 2500)+"\n")
		}
	}
	return l
}

func TestTextsThatAreNoScripts(t *testing.T) {
	for _, text := range notScripts() {
		wantNoScript(t, text)
		if isScriptByWords(text) {
			t.Errorf("%.100q is a script", text)
		}
	}
}

// Bytes of any kind between, behind and in place of those of a script.
func TestChangedScripts(t *testing.T) {
	var script tally
	for _, text := range goodScripts() {
		for at := range len(text) + 1 {
			for _, bytes := range []string{"\n", " ", "0", "9", "/", "a", "\x00", "\xff", "\r", "é"} {
				script.count(checkScript(t, text[:at]+bytes+text[at:]))
				script.count(checkScript(t, text[:at]+bytes+text[min(at+1, len(text)):]))
			}
			script.count(checkScript(t, text[:at]))
			script.count(checkScript(t, text[at:]))
			script.count(checkScript(t, text[:at]+text[min(at+1, len(text)):]))
		}
	}
	script.wantBoth(t, 5000, 200)
}

func TestScriptsOfAnyBytes(t *testing.T) {
	s := steps(191)
	var script tally
	for range 2000 {
		text := someTexts(&s, 1, s.below(200))[0]
		script.count(checkScript(t, text))
		script.count(checkScript(t, text+"\n"))
		line := strings.ReplaceAll(text, "\n", " ")
		script.count(checkScript(t, asLines("cuts "+line, "squeeze "+line, "make "+line, "write "+line, "ham "+line, line)))
	}
	script.wantBoth(t, 3000, 1000)
	for b := range 256 {
		one := string([]byte{byte(b)})
		for _, line := range strings.Split("make /a,list /,link /a /b,write a 0 1,cut a 0,remove a,map a,ham 1,mend 1,cuts a,squeeze a,paths,check", ",") {
			for at := range len(line) + 1 {
				checkScript(t, asLines(line[:at]+one+line[at:]))
			}
		}
	}
}

func TestScriptsAnswerTheSameEachTime(t *testing.T) {
	for _, text := range slices.Concat(goodScripts(), notScripts()) {
		first := impl.RunFiles(text)
		names, disk, ok := impl.FilesOf(text)
		for range 20 {
			again, againDisk, is := impl.FilesOf(text)
			if impl.RunFiles(text) != first || is != ok || !sameTreeOfNames(again, names) || !sameSystem(againDisk, disk) {
				t.Fatalf("%.200q is not answered the same each time", text)
			}
			checkScript(t, "make /other\nwrite other 0 38\n")
		}
	}
}

func clipped[T any](l [][]T) [][]T {
	out := slices.Clone(l)
	for i := range out {
		out[i] = slices.Clip(out[i])
	}
	return out
}

// wantFilesApart: each list of an answer is its own, and none of a later one.
func wantFilesApart(t *testing.T, text string) {
	t.Helper()
	names, disk, ok := impl.FilesOf(text)
	later, laterDisk, isLater := impl.FilesOf(text)
	if !ok || !isLater {
		t.Fatalf("%q is no script", text)
	}
	heldNames, heldDisk := copyInodes(later), copySystem(laterDisk)
	listsOfAnswer, pieces := listsOfNames(names), piecesOfSystem(disk)
	spoil(names.Inodes, spoiltInode())
	spoil(disk.Files, spoiltHeld())
	wantTreeOfNames(t, "the inodes of another answer spoilt", later, heldNames)
	wantSystem(t, "the files of another answer spoilt", laterDisk, true, heldDisk)
	wantListsApart(t, "Names of inodes", clipped(listsOfNames(later)), listsOfNames(heldNames), listsOfAnswer, entry("spoilt", -9))
	wantListsApart(t, "Room", clipped(listsOfFree(laterDisk.Room)), listsOfFree(heldDisk.Room), listsOfFree(disk.Room), extent(-9, -9))
	wantListsApart(t, "pieces", clipped(piecesOfSystem(laterDisk)), piecesOfSystem(heldDisk), pieces, piece("-9+-9@-9*"))
	wantFiles(t, text, heldNames, heldDisk)
}

func TestFilesOfAreNewMemory(t *testing.T) {
	for _, text := range goodScripts() {
		wantFilesApart(t, text)
	}
	for seed := range 100 {
		s := steps(1940 + seed)
		wantFilesApart(t, asLines(someLines(&s, 80, 2500)...))
	}
}

// What is answered may be spoilt: the next call does not hang on it.
func TestAnswersOfFilesDoNotHangOnSpoiltOnes(t *testing.T) {
	for _, text := range goodScripts() {
		names, disk, _ := impl.FilesOf(text)
		spoil(disk.Room.ByPlace, extent(-9, -9))
		spoil(disk.Room.BySize, extent(-9, -9))
		spoil(disk.Files, spoiltHeld())
		spoil(names.Inodes, spoiltInode())
		checkScript(t, text)
		checkScript(t, "")
	}
}
