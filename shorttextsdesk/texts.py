"""The calls over short texts: each text is a list of at most 31 bytes, each answer one list of whole numbers."""

LONGEST = 31


def text_answer(whole):
    kept = whole[:LONGEST]
    return [len(kept)] + kept


def join(a, b):
    return text_answer(a + b)


def part(begin, n, t):
    # What lies before the front is counted in n, so the end is reckoned from begin as it was handed in.
    # Neither bound may stay below 0: a slice would count it from the text's end.
    end = max(begin + n, 0)
    return text_answer(t[max(begin, 0):end])


def find(begin, t, p):
    # The last place where p has room is counted in, so the empty p stands at t's length too.
    for place in range(max(begin, 0), len(t) - len(p) + 1):
        if t[place:place + len(p)] == p:
            return [place]
    return [-1]


def last(t, p):
    # From the end on, the first place that fits is the last one.
    for place in range(len(t) - len(p), -1, -1):
        if t[place:place + len(p)] == p:
            return [place]
    return [-1]
