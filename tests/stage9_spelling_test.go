package tests

import (
	"math/rand"
	"regexp"
	"slices"
	"strings"
	"testing"

	"loop.example/g00882/impl"
)

// Promise 9: a joined word is recovered by splitting, and every split joins to the given spelling.
// Promise 26, for chapter 9: every function returns for all arguments and modifies none of them.

const letters = "abcdefghijklmnopqrstuvwxyz"

// A spellingRule of the second reading looks at a word and a suffix with "+" between them.
type spellingRule struct {
	rule              int
	condition, ending *regexp.Regexp
	written           string
}

func spellingRuleOf(rule int, condition, ending, written string) spellingRule {
	return spellingRule{rule, regexp.MustCompile(condition), regexp.MustCompile(ending), written}
}

// spellingRules are in the order of the document.
var spellingRules = []spellingRule{
	spellingRuleOf(impl.RuleIesPlural, `[^aeiou]y\+s$`, `y\+s$`, "ies"),
	spellingRuleOf(impl.RuleEsPlural, `([sxz]|ch|sh)\+s$`, `\+s$`, "es"),
	spellingRuleOf(impl.RuleIeToY, `ie\+ing$`, `ie\+ing$`, "ying"),
	spellingRuleOf(impl.RuleYToI, `[^aeiou]y\+[^i]`, `y\+`, "i"),
	spellingRuleOf(impl.RuleDropE, `[^eoy]e\+[aeiou]`, `e\+`, ""),
	spellingRuleOf(impl.RuleDouble, `^[^aeiou]+[aeiou][^aeiouwxy]\+[aeiou]`, `(.)\+`, "$1$1"),
	spellingRuleOf(impl.RulePlain, `\+`, `\+`, ""),
}

var vowelGroup = regexp.MustCompile(`[aeiou]+`)

// expectedSpelling joins two words. The result may be longer than a word.
func expectedSpelling(word, suffix string) (int, string) {
	parts := word + "+" + suffix
	for _, r := range spellingRules {
		if r.condition.MatchString(parts) {
			return r.rule, r.ending.ReplaceAllString(parts, r.written)
		}
	}
	panic("no rule for " + parts)
}

// expectedSplit tries every word that begins as the spelling and ends with letters that a rule may
// have taken away, of which there are at most two.
func expectedSplit(s, suffix string) []string {
	var found []string
	for length := range len(s) + 1 {
		for _, taken := range stringsOver("eiy", 2) {
			word := s[:length] + taken
			if word == "" || len(word) > 24 {
				continue
			}
			if _, joined := expectedSpelling(word, suffix); joined == s {
				found = append(found, word)
			}
		}
	}
	slices.Sort(found)
	return slices.Compact(found)
}

func checkIsWord(t *testing.T, s string, want bool) {
	t.Helper()
	if got := impl.IsWord(s); got != want {
		t.Errorf("IsWord(%.60q) = %v", s, got)
	}
}

func checkVowelGroups(t *testing.T, s string, want int, wantOK bool) {
	t.Helper()
	if got, ok := impl.VowelGroups(s); got != want || ok != wantOK {
		t.Errorf("VowelGroups(%.60q) = %d, %v; want %d, %v", s, got, ok, want, wantOK)
	}
}

func checkRule(t *testing.T, word, suffix string, want int, wantOK bool) {
	t.Helper()
	if got, ok := impl.SuffixRule(word, suffix); got != want || ok != wantOK {
		t.Errorf("SuffixRule(%.60q, %.60q) = %d, %v; want %d, %v", word, suffix, got, ok, want, wantOK)
	}
}

// checkSpelling expects a failure if want is empty.
func checkSpelling(t *testing.T, word, suffix, want string) {
	t.Helper()
	if got, ok := impl.JoinSuffix(word, suffix); got != want || ok != (want != "") {
		t.Errorf("JoinSuffix(%.60q, %.60q) = %.60q, %v; want %q", word, suffix, got, ok, want)
	}
}

func checkSplitWords(t *testing.T, s, suffix string, want []string, wantOK bool) {
	t.Helper()
	if got, ok := impl.SplitSuffix(s, suffix); !slices.Equal(got, want) || ok != wantOK {
		t.Errorf("SplitSuffix(%.60q, %.60q) = %.200q, %v; want %.200q, %v", s, suffix, got, ok, want, wantOK)
	}
}

// checkRecovered checks both halves of promise 9 for a word that has been joined.
func checkRecovered(t *testing.T, word, suffix, joined string) {
	t.Helper()
	split, ok := impl.SplitSuffix(joined, suffix)
	if !ok || !slices.Contains(split, word) {
		t.Errorf("SplitSuffix(%q, %q) = %q, %v; it lacks %q", joined, suffix, split, ok, word)
	}
	for _, w := range split {
		checkSpelling(t, w, suffix, joined)
	}
}

// checkSuffix expects that the joined word is too long if it is empty.
func checkSuffix(t *testing.T, word, suffix string, rule int, joined string) {
	t.Helper()
	checkRule(t, word, suffix, rule, true)
	checkSpelling(t, word, suffix, joined)
	if joined != "" {
		checkRecovered(t, word, suffix, joined)
	}
}

// checkAsExpected compares the program with the second reading.
func checkAsExpected(t *testing.T, word, suffix string) {
	t.Helper()
	rule, joined := expectedSpelling(word, suffix)
	if len(joined) > 24 {
		joined = ""
	}
	checkSuffix(t, word, suffix, rule, joined)
}

// checkJoinings takes a list of "word+suffix=joined", and compares the second reading with it too.
func checkJoinings(t *testing.T, rule int, list string) {
	t.Helper()
	for _, x := range strings.Fields(list) {
		parts, joined, _ := strings.Cut(x, "=")
		word, suffix, _ := strings.Cut(parts, "+")
		checkSuffix(t, word, suffix, rule, joined)
		if r, s := expectedSpelling(word, suffix); r != rule || s != joined {
			t.Error("the second reading differs:", x, r, s)
		}
	}
}

// checkWord expects s to be accepted as every argument.
func checkWord(t *testing.T, s string) {
	t.Helper()
	checkIsWord(t, s, true)
	checkVowelGroups(t, s, len(vowelGroup.FindAllString(s, -1)), true)
	for _, other := range []string{"a", "s", "y", "n", "ing", "run", "ties", letters[:24]} {
		checkAsExpected(t, s, other)
		checkAsExpected(t, other, s)
		checkSplitWords(t, s, other, expectedSplit(s, other), true)
		checkSplitWords(t, other, s, expectedSplit(other, s), true)
	}
}

// checkNoWord expects s to be rejected as every argument.
func checkNoWord(t *testing.T, s string) {
	t.Helper()
	checkIsWord(t, s, false)
	checkVowelGroups(t, s, 0, false)
	others := []string{"a", "s", "y", "e", "ing", "ed", "run", "try", "die", "box", "making", letters[:24], letters[:25], "", s}
	for _, other := range others {
		checkRule(t, s, other, 0, false)
		checkRule(t, other, s, 0, false)
		checkSpelling(t, s, other, "")
		checkSpelling(t, other, s, "")
		checkSplitWords(t, s, other, nil, false)
		checkSplitWords(t, other, s, nil, false)
	}
}

// longWord returns n letters, of which those before the ending are consonants.
func longWord(n int, ending string) string { return strings.Repeat("b", n-len(ending)) + ending }

func TestSpellingConstants(t *testing.T) {
	rules := []int{impl.RulePlain, impl.RuleIesPlural, impl.RuleEsPlural, impl.RuleIeToY, impl.RuleYToI, impl.RuleDropE, impl.RuleDouble}
	if !slices.Equal(rules, []int{0, 1, 2, 3, 4, 5, 6}) || impl.MaxWord != 24 {
		t.Error(rules, impl.MaxWord)
	}
}

func TestExamplesOfSpelling(t *testing.T) {
	checkRule(t, "happy", "ness", impl.RuleYToI, true)
	checkSpelling(t, "run", "ing", "running")
	checkSpelling(t, "die", "ing", "dying")
	checkSplitWords(t, "making", "ing", []string{"make"}, true)
}

func TestIsWord(t *testing.T) {
	for _, s := range stringsOver(letters, 2)[1:] {
		checkIsWord(t, s, true)
	}
	for n := 1; n <= 24; n++ {
		for _, c := range []string{"a", "b", "y", "z"} {
			checkIsWord(t, strings.Repeat(c, n), true)
		}
	}
	for _, s := range []string{"a", "z", "y", "s", "cat", "ies", letters[:24], letters[2:], longWord(24, "ie"), longWord(24, "un")} {
		checkWord(t, s)
	}
}

func TestNoWords(t *testing.T) {
	for _, s := range []string{
		"", " ", "A", "Z", "0", "9", "Cat", "cAt", "caT", "CAT", "1cat", "c4t", "cat1", " cat", "cat ", "c at", "a b",
		"cat\n", "cat\x00", "\x00", "it's", "re-do", "cat.", "{^ing}", "cat`", "cat{", "caf\u00e9", "caf\xe9", "\u00e9",
		"\xe1", "\xff", "a\x80", "\u017f", "\uff41", "runn\u0131ng", "making\x80", "Making", "makIng", "makinG", "making ",
		strings.Repeat("a", 25), strings.Repeat("b", 25), letters[:25], letters, longWord(25, "y"), longWord(25, "ying"),
		letters[:24] + " ", letters[:23] + "\u00e9", strings.Repeat("e", 1<<20), longWord(1<<8+24, "e"), longWord(1<<16+24, "ing"),
	} {
		checkNoWord(t, s)
	}
}

// Every byte but the 26 small letters spoils a word, wherever it stands.
func TestEveryByteInAWord(t *testing.T) {
	for c := range 256 {
		b := string([]byte{byte(c)})
		for _, s := range []string{b, b + "y", "a" + b, b + "aking", "mak" + b, "ma" + b + "ing", "makin" + b, letters[:23] + b, b + letters[:23]} {
			if strings.Contains(letters, b) {
				checkWord(t, s)
			} else {
				checkNoWord(t, s)
			}
		}
	}
}

func TestVowelGroups(t *testing.T) {
	for s, want := range map[string]int{
		"a": 1, "b": 0, "y": 0, "yy": 0, "cat": 1, "rain": 1, "area": 2, "aeiou": 1, "aeiouaeiou": 1, "queue": 1, "banana": 3,
		"happy": 1, "day": 1, "yes": 1, "eye": 2, "aya": 2, "ayaya": 3, "yay": 1, "ayb": 1, "rhythm": 0, "strengths": 1,
		"ab": 1, "ba": 1, "aba": 2, "bab": 1, "babab": 2, "oboe": 2, "uwu": 2, "iji": 2, "oxo": 2, "ohio": 2,
		strings.Repeat("a", 24): 1, strings.Repeat("b", 24): 0, strings.Repeat("y", 24): 0,
		strings.Repeat("ab", 12): 12, strings.Repeat("ba", 12): 12, strings.Repeat("aey", 8): 8, letters[:24]: 5,
	} {
		checkVowelGroups(t, s, want, true)
	}
	for _, c := range strings.Split(letters, "") {
		vowel := strings.Count("aeiou", c)
		checkVowelGroups(t, c, vowel, true)
		checkVowelGroups(t, c+c, vowel, true)
		checkVowelGroups(t, "b"+c+"b", vowel, true)
		checkVowelGroups(t, "a"+c+"a", 2-vowel, true)
	}
	for _, s := range stringsOver("auby", 6)[1:] {
		checkVowelGroups(t, s, len(vowelGroup.FindAllString(s, -1)), true)
	}
}

func TestRuleIesPlural(t *testing.T) {
	checkJoinings(t, impl.RuleIesPlural, `try+s=tries happy+s=happies by+s=bies yy+s=yies ayy+s=ayies eyby+s=eybies
		sy+s=sies xy+s=xies zy+s=zies chy+s=chies wy+s=wies yby+s=ybies`)
	checkJoinings(t, impl.RulePlain, `y+s=ys day+s=days key+s=keys boy+s=boys guy+s=guys ay+s=ays iy+s=iys aeiouy+s=aeiouys
		tr+s=trs tryb+s=trybs trya+s=tryas tri+s=tris`)
	for _, c := range strings.Split(letters, "") {
		if strings.Contains("aeiou", c) {
			checkJoinings(t, impl.RulePlain, "b"+c+"y+s=b"+c+"ys")
		} else {
			checkJoinings(t, impl.RuleIesPlural, "a"+c+"y+s=a"+c+"ies")
		}
	}
}

func TestRuleEsPlural(t *testing.T) {
	checkJoinings(t, impl.RuleEsPlural, `s+s=ses x+s=xes z+s=zes ch+s=ches sh+s=shes bus+s=buses box+s=boxes buzz+s=buzzes
		church+s=churches wash+s=washes ass+s=asses ys+s=yses es+s=eses bies+s=bieses sch+s=sches`)
	checkJoinings(t, impl.RulePlain, `c+s=cs h+s=hs th+s=ths hh+s=hhs graph+s=graphs ah+s=ahs zh+s=zhs xh+s=xhs hc+s=hcs
		hs+h=hsh sa+s=sas chi+s=chis she+s=shes boxe+s=boxes box+ss=boxss box+sh=boxsh box+es=boxes box+n=boxn box+ing=boxing ch+ing=ching`)
	for _, c := range strings.Split(letters, "") {
		rule, joined := impl.RulePlain, c+"s"
		if strings.Contains("sxz", c) {
			rule, joined = impl.RuleEsPlural, c+"es"
		}
		checkJoinings(t, rule, "ba"+c+"+s=ba"+joined+" "+c+"+s="+joined)
		rule, joined = impl.RulePlain, c+"hs"
		if strings.Contains("cs", c) {
			rule, joined = impl.RuleEsPlural, c+"hes"
		}
		checkJoinings(t, rule, "ba"+c+"h+s=ba"+joined+" "+c+"h+s="+joined)
	}
}

func TestRuleIeToY(t *testing.T) {
	checkJoinings(t, impl.RuleIeToY, `die+ing=dying tie+ing=tying untie+ing=untying ie+ing=ying eie+ing=eying iie+ing=iying yie+ing=yying`)
	checkJoinings(t, impl.RuleDropE, `die+ed=died die+in=diin die+ings=diings die+i=dii die+e=die ie+ed=ied ie+ings=iings ie+i=ii
		ue+ing=uing ae+ing=aing dice+ing=dicing`)
	checkJoinings(t, impl.RulePlain, `die+s=dies ie+s=ies ie+n=ien die+ness=dieness die+ting=dieting die+ning=diening
		i+ing=iing e+ing=eing ei+ing=eiing diet+ing=dieting`)
}

func TestRuleYToI(t *testing.T) {
	checkJoinings(t, impl.RuleYToI, `happy+ness=happiness try+ed=tried try+a=tria try+e=trie by+o=bio by+u=biu try+y=triy try+n=trin
		try+ss=triss try+so=triso try+yi=triyi yy+ed=yied yy+n=yin ayy+z=ayiz beauty+ful=beautiful fancy+est=fanciest`)
	checkJoinings(t, impl.RulePlain, `carry+ing=carrying try+i=tryi try+ish=tryish try+is=tryis yy+ing=yying yy+i=yyi
		play+ed=played ay+ed=ayed boy+hood=boyhood buy+er=buyer key+a=keya iy+o=iyo y+ed=yed y+n=yn y+a=ya y+y=yy y+ing=ying y+i=yi`)
	for _, c := range strings.Split(letters, "") {
		if c != "i" && c != "s" {
			checkJoinings(t, impl.RuleYToI, "try+"+c+"=tri"+c+" try+"+c+"i=tri"+c+"i")
		}
		if strings.Contains("aeiou", c) {
			checkJoinings(t, impl.RulePlain, "b"+c+"y+ed=b"+c+"yed")
		} else {
			checkJoinings(t, impl.RuleYToI, "a"+c+"y+ed=a"+c+"ied")
			checkJoinings(t, impl.RulePlain, "a"+c+"y+ing=a"+c+"ying")
		}
	}
}

func TestRuleDropE(t *testing.T) {
	checkJoinings(t, impl.RuleDropE, `make+ing=making make+ed=maked make+a=maka make+i=maki make+o=mako make+u=maku ice+e=ice
		be+ing=bing we+o=wo ae+a=aa ue+ed=ued argue+able=arguable fuse+ion=fusion eebe+a=eeba oebe+a=oeba yebe+a=yeba nine+ing=nining`)
	checkJoinings(t, impl.RulePlain, `bee+ing=beeing shoe+ing=shoeing dye+ing=dyeing eye+ing=eyeing ee+a=eea oe+e=oee ye+i=yei
		e+ing=eing e+e=ee e+a=ea e+s=es e+n=en make+s=makes make+r=maker make+y=makey hope+ful=hopeful sea+ed=seaed knee+s=knees`)
	for _, c := range strings.Split(letters, "") {
		if strings.Contains("eoy", c) {
			checkJoinings(t, impl.RulePlain, c+"e+ed="+c+"eed ab"+c+"e+ed=ab"+c+"eed")
		} else {
			checkJoinings(t, impl.RuleDropE, c+"e+ed="+c+"ed ab"+c+"e+ed=ab"+c+"ed")
		}
		if strings.Contains("aeiou", c) {
			checkJoinings(t, impl.RuleDropE, "make+"+c+"=mak"+c+" make+"+c+"b=mak"+c+"b")
		} else {
			checkJoinings(t, impl.RulePlain, "make+"+c+"=make"+c+" make+"+c+"a=make"+c+"a")
		}
	}
}

func TestRuleDouble(t *testing.T) {
	checkJoinings(t, impl.RuleDouble, `run+ing=running stop+ed=stopped strap+ing=strapping cat+a=catta cat+e=catte cat+i=catti
		cat+o=catto cat+u=cattu yes+e=yesse bus+es=busses bah+ed=bahhed ybab+er=ybabber chat+ed=chatted`)
	checkJoinings(t, impl.RulePlain, `rain+ing=raining quit+ing=quiting open+ing=opening begin+ing=begining an+ing=aning am+a=ama
		help+ed=helped which+ing=whiching gym+ic=gymic nth+ed=nthed b+a=ba ba+a=baa a+a=aa n+ing=ning
		run+s=runs run+ner=runner run+y=runy cat+n=catn fix+ed=fixed row+ed=rowed way+ed=wayed toy+ing=toying`)
	for _, c := range strings.Split(letters, "") {
		if c == "e" {
			checkJoinings(t, impl.RuleDropE, "bae+on=baon")
		} else if strings.Contains("aiouwxy", c) {
			checkJoinings(t, impl.RulePlain, "ba"+c+"+on=ba"+c+"on")
		} else {
			checkJoinings(t, impl.RuleDouble, "ba"+c+"+on=ba"+c+c+"on")
		}
		if strings.Contains("aeiou", c) {
			checkJoinings(t, impl.RulePlain, c+"at+on="+c+"aton at"+c+"t+on=at"+c+"ton")
			checkJoinings(t, impl.RuleDouble, "t"+c+"t+on=t"+c+"tton cat+"+c+"=catt"+c)
		} else {
			checkJoinings(t, impl.RuleDouble, c+"at+on="+c+"atton th"+c+"at+on=th"+c+"atton")
			checkJoinings(t, impl.RulePlain, "t"+c+"t+on=t"+c+"ton")
		}
	}
}

// The words and suffixes of one letter, vowel and consonant.
func TestOneLetter(t *testing.T) {
	for _, word := range strings.Split(letters, "") {
		for _, suffix := range strings.Split(letters, "") {
			if suffix == "s" && strings.Contains("sxz", word) {
				checkSuffix(t, word, suffix, impl.RuleEsPlural, word+"es")
			} else {
				checkSuffix(t, word, suffix, impl.RulePlain, word+suffix)
			}
			checkSplitWords(t, word, suffix, nil, true)
		}
		checkSuffix(t, word, "ing", impl.RulePlain, word+"ing")
		checkSuffix(t, word, "ed", impl.RulePlain, word+"ed")
		checkSuffix(t, word, "ness", impl.RulePlain, word+"ness")
	}
	checkJoinings(t, impl.RuleIesPlural, "by+s=bies")
	checkJoinings(t, impl.RuleEsPlural, "x+s=xes ash+s=ashes")
	checkJoinings(t, impl.RuleYToI, "by+a=bia by+n=bin")
	checkJoinings(t, impl.RuleDropE, "be+a=ba be+i=bi ie+i=ii")
	checkJoinings(t, impl.RuleDouble, "bab+a=babba bab+i=babbi")
}

// Of two rules whose conditions hold, the one that comes first in the document applies.
func TestRulesThatHoldTogether(t *testing.T) {
	together := map[[2]int]int{}
	for _, word := range stringsOver("abcehiosxy", 4)[1:] {
		for _, suffix := range []string{"s", "ing", "i", "e", "n", "ss", "sing"} {
			var holding []int
			for _, r := range spellingRules[:6] {
				if r.condition.MatchString(word + "+" + suffix) {
					holding = append(holding, r.rule)
				}
			}
			if len(holding) > 2 {
				t.Fatal("three rules", word, suffix, holding)
			}
			if len(holding) == 2 {
				together[[2]int(holding)]++
				checkRule(t, word, suffix, holding[0], true)
			}
		}
	}
	plural, gerund := [2]int{impl.RuleIesPlural, impl.RuleYToI}, [2]int{impl.RuleIeToY, impl.RuleDropE}
	if len(together) != 2 || together[plural] == 0 || together[gerund] == 0 {
		t.Error("other pairs", together)
	}
}

// The longest word whose result has exactly MaxWord letters, by rule, and those around it.
func TestResultsAtTheLimit(t *testing.T) {
	for _, x := range []struct {
		ending, suffix string
		rule, longest  int
	}{
		{"b", "s", impl.RulePlain, 23}, {"b", "ing", impl.RulePlain, 21}, {"ee", "ing", impl.RulePlain, 21}, {"ay", "s", impl.RulePlain, 23},
		{"by", "s", impl.RuleIesPlural, 22},
		{"x", "s", impl.RuleEsPlural, 22}, {"ch", "s", impl.RuleEsPlural, 22}, {"sh", "s", impl.RuleEsPlural, 22},
		{"ie", "ing", impl.RuleIeToY, 22},
		{"by", "n", impl.RuleYToI, 23}, {"by", "ness", impl.RuleYToI, 20},
		{"be", "a", impl.RuleDropE, 24}, {"be", "ed", impl.RuleDropE, 23}, {"be", "ing", impl.RuleDropE, 22},
		{"bun", "a", impl.RuleDouble, 22}, {"bun", "ing", impl.RuleDouble, 20},
	} {
		for n := len(x.ending); n <= 24; n++ {
			word := longWord(n, x.ending)
			rule, joined := expectedSpelling(word, x.suffix)
			if rule != x.rule || (len(joined) == 24) != (n == x.longest) {
				t.Fatal("the second reading differs:", word, x.suffix, rule, joined)
			}
			if n > x.longest {
				joined = ""
			}
			checkSuffix(t, word, x.suffix, rule, joined)
		}
	}
}

// The longest suffix whose result has exactly MaxWord letters, and those around it.
func TestLongSuffixesAtTheLimit(t *testing.T) {
	for _, x := range []struct {
		word, start   string
		rule, longest int
	}{
		{"b", "b", impl.RulePlain, 23}, {"bat", "b", impl.RulePlain, 21}, {"play", "e", impl.RulePlain, 20},
		{"try", "a", impl.RuleYToI, 21}, {"be", "a", impl.RuleDropE, 23}, {"make", "e", impl.RuleDropE, 21},
		{"run", "i", impl.RuleDouble, 20}, {"die", "i", impl.RuleDropE, 22},
	} {
		for n := 1; n <= 24; n++ {
			suffix := x.start + strings.Repeat("b", n-1)
			_, joined := expectedSpelling(x.word, suffix)
			if (len(joined) == 24) != (n == x.longest) {
				t.Fatal("the second reading differs:", x.word, suffix, joined)
			}
			if n > x.longest {
				joined = ""
			}
			checkSuffix(t, x.word, suffix, x.rule, joined)
		}
	}
}

// checkSplits takes a list of "spelling-suffix=word,word", and compares the second reading with it
// too.
func checkSplits(t *testing.T, list string) {
	t.Helper()
	for _, x := range strings.Fields(list) {
		parts, joined, _ := strings.Cut(x, "=")
		s, suffix, _ := strings.Cut(parts, "-")
		words := strings.FieldsFunc(joined, func(c rune) bool { return c == ',' })
		checkSplitWords(t, s, suffix, words, true)
		if want := expectedSplit(s, suffix); !slices.Equal(words, want) {
			t.Error("the second reading differs:", x, want)
		}
	}
}

func TestSplitSuffixWithoutWords(t *testing.T) {
	checkSplits(t, `cat-ing= cat-s= s-s= a-a= y-y= e-e= ing-ing= ness-ness= ng-ing= g-ing= ingot-ing= run-running= makings-ing=
		happyness-ness= trys-s= boxs-s= makeing-ing= dieing-ing= tryed-ed= kindness-ing=`)
	for _, suffix := range []string{"a", "s", "ing", letters[:24], letters[2:]} {
		checkSplitWords(t, letters[1:25], suffix, nil, true)
		checkSplitWords(t, "b", suffix, nil, true)
		checkSplitWords(t, suffix, suffix, nil, true)
	}
}

func TestSplitSuffixIntoOneWord(t *testing.T) {
	checkSplits(t, `cats-s=cat days-s=day ys-s=y es-s=e ies-s=ie yes-s=ye ssing-sing=s making-ing=make runing-ing=rune dyeing-ing=dye
		beeing-ing=bee shoeing-ing=shoe kindness-ness=kind bness-ness=b`)
	checkSplitWords(t, letters[:24], letters[1:24], []string{"a"}, true)
	checkSplitWords(t, letters[:24], "x", []string{letters[:23]}, true)
}

// The rules are not in the order of the words that they give, so that the words must be sorted.
func TestSplitSuffixIntoSeveralWords(t *testing.T) {
	checkSplits(t, `bases-s=bas,base churches-s=church,churche boxes-s=box,boxe ses-s=s,se tries-s=trie,try yies-s=yie,yy
		dying-ing=die,dy ying-ing=ie,y raining-ing=rain,raine bing-ing=b,be happiness-ness=happi,happy carrying-ing=carrie,carry
		running-ing=run,runn,runne hopping-ing=hop,hopp,hoppe died-ed=di,die,dy tried-ed=tri,trie,try yied-ed=yi,yie,yy
		catta-a=cat,catt,catte`)
	stem := strings.Repeat("b", 21)
	checkSplitWords(t, stem+"iss", "ss", []string{stem + "i", stem + "y"}, true)
	checkSplitWords(t, stem+"abo", "o", []string{stem + "abe"}, true)
	checkSplitWords(t, stem[1:]+"abbo", "o", []string{stem[1:] + "ab", stem[1:] + "abb", stem[1:] + "abbe"}, true)
}

// Promise 9 for all words of a few letters, among them all that a rule replaces or looks at in its
// own way. The words that give a spelling are found by joining all words.
func TestSplitAndJoinAreInverseForAllSmallWords(t *testing.T) {
	const few = "ehinosy"
	words := stringsOver(few, 5)[1:]
	slices.Sort(words)
	spellings := stringsOver(few, 4)
	for suffix, wantMost := range map[string]int{"s": 2, "e": 3, "i": 3, "y": 2, "n": 2, "ing": 3, "es": 3, "ish": 3, "sh": 2, "ness": 2} {
		splits := map[string][]string{}
		for _, word := range words {
			rule, joined := expectedSpelling(word, suffix)
			checkSuffix(t, word, suffix, rule, joined)
			splits[joined] = append(splits[joined], word)
		}
		most := 0
		for _, s := range spellings {
			if s != "" {
				checkSplitWords(t, s, suffix, splits[s], true)
			}
			checkSplitWords(t, s+suffix, suffix, splits[s+suffix], true)
			most = max(most, len(splits[s+suffix]))
		}
		if most != wantMost {
			t.Error("at most", most, "words give a spelling with", suffix)
		}
	}
}

// With every letter of the alphabet, all short words.
func TestAllShortWordsAndSuffixes(t *testing.T) {
	words := stringsOver(letters, 3)[1:]
	for i, word := range words {
		for _, suffix := range []string{"s", "e", "i", "n", "ing"} {
			checkAsExpected(t, word, suffix)
		}
		if i < 26+26*26 {
			for _, suffix := range strings.Split(letters, "") {
				checkAsExpected(t, word, suffix)
				checkSplitWords(t, word+suffix, suffix, expectedSplit(word+suffix, suffix), true)
			}
		}
	}
}

// randomWord returns n letters, most of them consonants, so that many words have only one group of
// vowels. If there is room for it, half of the words have an ending that a rule looks at.
func randomWord(r *rand.Rand, n int) string {
	endings := []string{"y", "ey", "e", "ee", "oe", "ye", "ie", "s", "z", "ch", "sh", "un", "et", "ow", "ix", "ain"}
	ending := ""
	if i := r.Intn(2 * len(endings)); i < len(endings) && len(endings[i]) <= n {
		ending = endings[i]
	}
	b := make([]byte, n-len(ending))
	for i := range b {
		from := "bcdfghjklmnpqrstvwxyz"
		if r.Intn(10) == 0 {
			from = letters
		}
		b[i] = from[r.Intn(len(from))]
	}
	return string(b) + ending
}

func randomSuffix(r *rand.Rand) string {
	suffixes := []string{"s", "s", "s", "ing", "ing", "ing", "ed", "ness", "er", "ish"}
	if i := r.Intn(2 * len(suffixes)); i < len(suffixes) {
		return suffixes[i]
	}
	return randomWord(r, 1+r.Intn(6))
}

func TestRandomJoinsAndSplits(t *testing.T) {
	r := rand.New(rand.NewSource(9))
	rules, tooLong := map[int]int{}, map[int]int{}
	for range 20000 {
		word, suffix := randomWord(r, 1+r.Intn(24)), randomSuffix(r)
		checkAsExpected(t, word, suffix)
		rule, joined := expectedSpelling(word, suffix)
		rules[rule]++
		if len(joined) > 24 {
			tooLong[rule]++
		}
	}
	for rule := impl.RulePlain; rule <= impl.RuleDouble; rule++ {
		if rules[rule] < 50 || tooLong[rule] < 5 {
			t.Error("the words do not try the rule", rule, rules, tooLong)
		}
	}
	for range 1500 {
		suffix := randomSuffix(r)
		s := randomWord(r, r.Intn(25-len(suffix))) + suffix
		checkSplitWords(t, s, suffix, expectedSplit(s, suffix), true)
	}
}

// What a caller does with a result, up to its capacity, shows neither in an earlier result nor in a
// later one.
func TestSplitSuffixReturnsNewMemory(t *testing.T) {
	for _, x := range []struct{ s, suffix string }{{"running", "ing"}, {"died", "ed"}, {"bases", "s"}, {"making", "ing"}, {"cat", "ing"}, {"", "ing"}, {"cat", "S"}} {
		want, wantOK := impl.SplitSuffix(x.s, x.suffix)
		want = slices.Clone(want)
		earlier, _ := impl.SplitSuffix(x.s, x.suffix)
		first, _ := impl.SplitSuffix(x.s, x.suffix)
		for i := range first[:cap(first)] {
			first[:cap(first)][i] = "changed"
		}
		if !slices.Equal(earlier, want) {
			t.Errorf("SplitSuffix(%q, %q): an earlier result changed to %q", x.s, x.suffix, earlier)
		}
		checkSplitWords(t, x.s, x.suffix, want, wantOK)
	}
}
