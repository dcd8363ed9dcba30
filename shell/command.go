package shell

import "strings"

// moment: when a command may be given.
type moment int

const (
	whenOpen     moment = iota // an archive is open: so it is with most commands, and left out of the table
	whenShut                   // none is open
	whenBegun                  // a batch is begun
	whenNotBegun               // an archive is open, and no batch is begun
	always
)

// What a command wants is said by letters, one for each word: an n is for a number.
const (
	wantText  = 't'
	wantMaybe = '[' // what is wanted behind it may be left out
	wantMore  = '+' // numbers, however many
)

// command: the words that it wants, when it may be given, and how it is played.
type command struct {
	wants string
	when  moment
	play  func(*session, order) (string, error)
}

// commands tells all commands, by their words.
func commands() map[string]command {
	return map[string]command{
		"open":    {wants: "[nn", when: whenShut, play: (*session).open},
		"close":   {play: (*session).shut},
		"list":    {play: (*session).list},
		"names":   {wants: "n", play: (*session).names},
		"stat":    {wants: "t", play: (*session).stat},
		"read":    {wants: "t", play: (*session).read},
		"add":     {wants: "tt[n[n[nnnnnn[n[t", play: (*session).add},
		"delete":  {wants: "t", play: (*session).remove},
		"rename":  {wants: "tt", play: (*session).rename},
		"compact": {play: (*session).compact},
		"begin":   {when: whenNotBegun, play: (*session).begin},
		"commit":  {when: whenBegun, play: (*session).commit},
		"drop":    {when: whenBegun, play: (*session).drop},
		"note":    {play: (*session).note},
		"setnote": {wants: "t", play: (*session).setNote},
		"scan":    {when: always, play: (*session).scan},
		"verify":  {play: (*session).verify},
		"fuse":    {wants: "n", when: always, play: (*session).fuse},
		"crash":   {wants: "nn+", when: always, play: (*session).crash},
		"disk":    {when: always, play: (*session).state},
	}
}

// order: the texts and the numbers that are given with a command, each in their order.
type order struct {
	texts   []string
	numbers []int
}

// take tells what words say to a command, if they are as it wants them.
func take(wants string, words []string) (order, bool) {
	var o order
	for _, word := range words {
		wants = strings.TrimPrefix(wants, string(wantMaybe))
		if wants == "" || !o.put(wants[0], word) {
			return order{}, false
		}
		if wants[0] != wantMore {
			wants = wants[1:]
		}
	}
	return o, wants == "" || wants[0] == wantMaybe || wants[0] == wantMore
}

// put adds a word that is to be of that kind, and tells whether it is.
func (o *order) put(kind byte, word string) bool {
	if kind == wantText {
		o.texts = append(o.texts, word)
		return true
	}
	n, ok := number(word)
	o.numbers = append(o.numbers, n)
	return ok
}
