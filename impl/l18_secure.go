package impl

const (
	EdDropVersion = 1
	EdAddVersion  = 2
	EdDropExt     = 3
	EdSetVersion  = 4
	EdDropBack    = 5
	EdAddExt      = 6
	MaxEdits      = 6
)

// serverSide is the side whose finish both sides compare.
const serverSide = 1

type Edit struct {
	Kind int
	N    int
}

type Deal struct {
	Ok      bool
	Version int
	Tags    []int
}

// sight is what one side has sent and received in a handshake.
type sight struct {
	hello  Hello
	answer Answer
}

func EditHello(h Hello, e Edit) Hello {
	return edited(copyHello(h), helloEdits(), e)
}

// edited looks the edit up by its kind. It is given a copy of the message, which is all
// that is left where there is no such kind.
func edited[M any](message M, edits map[int]func(message *M, n int), e Edit) M {
	if change, ok := edits[e.Kind]; ok {
		change(&message, e.N)
	}
	return message
}

func helloEdits() map[int]func(h *Hello, n int) {
	return map[int]func(h *Hello, n int){
		EdDropVersion: dropHelloVersion,
		EdAddVersion:  addHelloVersion,
		EdDropExt:     dropHelloExt,
		EdAddExt:      addHelloExt,
	}
}

func dropHelloVersion(h *Hello, n int) {
	h.Versions, _ = DropVersion(h.Versions, n)
}

func addHelloVersion(h *Hello, n int) {
	h.Versions, _ = AddVersion(h.Versions, n)
}

func dropHelloExt(h *Hello, n int) {
	h.Exts = withoutTags(h.Exts, []int{n})
}

func addHelloExt(h *Hello, n int) {
	exts := append(h.Exts, Ext{Tag: n})
	if AreExts(exts) {
		h.Exts = exts
	}
}

// withoutTags returns copies of the extensions that KnownOf leaves out.
func withoutTags(l []Ext, tags []int) []Ext {
	left := []Ext{}
extensions:
	for _, x := range l {
		for _, tag := range tags {
			if x.Tag == tag {
				continue extensions
			}
		}
		left = append(left, copyExt(x))
	}
	return left
}

func EditAnswer(a Answer, e Edit) Answer {
	return edited(Answer{Version: a.Version, Exts: copyExts(a.Exts)}, answerEdits(), e)
}

func answerEdits() map[int]func(a *Answer, n int) {
	return map[int]func(a *Answer, n int){
		EdSetVersion: setAnswerVersion,
		EdDropBack:   dropAnswerExt,
	}
}

func setAnswerVersion(a *Answer, n int) {
	if isVersion(n) {
		a.Version = n
	}
}

func dropAnswerExt(a *Answer, n int) {
	a.Exts = withoutTags(a.Exts, []int{n})
}

func RunHandshake(h Hello, versions []int, tags []int, key int, edits []Edit) Deal {
	if !IsHello(h) || len(edits) > MaxEdits {
		return Deal{}
	}
	arrived := editAll(h, edits, EditHello)
	chosen, ok := ChooseAnswer(versions, tags, arrived)
	if !ok {
		return Deal{}
	}
	server := sight{hello: arrived, answer: chosen}
	client := sight{hello: h, answer: editAll(chosen, edits, EditAnswer)}
	return dealOf(key, client, server)
}

// editAll hands over edits of all kinds, since an edit of the other message changes
// nothing in this one.
func editAll[M any](message M, edits []Edit, edit func(message M, e Edit) M) M {
	for _, e := range edits {
		message = edit(message, e)
	}
	return message
}

// dealOf goes by the finishes alone where the two sides differ, as the sides have to:
// neither knows what the other one saw.
func dealOf(key int, client sight, server sight) Deal {
	finish := FinishOf(key, server.transcript(), serverSide)
	if !FitsHello(client.hello, client.answer) || !ChecksOut(key, client.transcript(), serverSide, finish) {
		return Deal{}
	}
	return Deal{Ok: true, Version: client.answer.Version, Tags: TagsOf(client.answer.Exts)}
}

func (s sight) transcript() [][]int {
	return [][]int{HelloBytes(s.hello), AnswerBytes(s.answer)}
}

func HonestDeal(h Hello, versions []int, tags []int, key int) Deal {
	return RunHandshake(h, versions, tags, key, nil)
}

func EqualDeals(a Deal, b Deal) bool {
	return a.Ok == b.Ok && a.Version == b.Version && EqualInts(a.Tags, b.Tags)
}
