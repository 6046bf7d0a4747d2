"""The calls over short texts: each text is a list of at most 31 bytes, each answer one list of whole numbers."""

LONGEST = 31
# How far a small letter lies behind its capital.
BEHIND_CAPITAL = 32
ESCAPE = 92
QUESTION_MARK = 63
STAR = 42
PLUS = 43
MINUS = 45
# What like may be asked for beside a byte itself: above all bytes, so that an escaped sign is not taken for it.
ANY_BYTE = 256
ANY_RUN = 257
ZERO = 48
# Small a (97) is the digit worth ten.
BEFORE_LETTERS = 87
# Above the worth of every digit, so that every base refuses it.
NO_DIGIT = 36


def text_answer(whole):
    kept = whole[:LONGEST]
    return [len(kept)] + kept


def join(a, b):
    return text_answer(a + b)


def part(begin, n, t):
    # What lies before the front is counted in n, so the end is reckoned from begin as it was handed in.
    # Neither bound may stay below 0: a slice would count it from the text's end.
    end = max(begin + n, 0)
    return text_answer(t[max(begin, 0):end])


def find(begin, t, p):
    # The last place where p has room is counted in, so the empty p stands at t's length too.
    for place in range(max(begin, 0), len(t) - len(p) + 1):
        if t[place:place + len(p)] == p:
            return [place]
    return [-1]


def last(t, p):
    # From the end on, the first place that fits is the last one.
    for place in range(len(t) - len(p), -1, -1):
        if t[place:place + len(p)] == p:
            return [place]
    return [-1]


def places(t, p):
    found = []
    place = find(0, t, p)[0]
    while place >= 0:
        found.append(place)
        # The empty p takes no room, yet its next place lies one further on.
        place = find(place + max(len(p), 1), t, p)[0]
    return found


def count(t, p):
    return [len(places(t, p))]


def replace(t, p, r):
    # The empty p has places too, but none of them is replaced.
    if len(p) == 0:
        return text_answer(t)
    whole = []
    behind = 0
    for place in places(t, p):
        whole = whole + t[behind:place] + r
        behind = place + len(p)
    return text_answer(whole + t[behind:])


def small(byte):
    return byte + BEHIND_CAPITAL if 65 <= byte <= 90 else byte


def all_small(t):
    return [small(byte) for byte in t]


def capital(byte):
    return byte - BEHIND_CAPITAL if 97 <= byte <= 122 else byte


def other_case(byte):
    return small(byte) if capital(byte) == byte else capital(byte)


def is_letter(byte):
    # Letters alone have two forms.
    return small(byte) != capital(byte)


def words_begun(t):
    whole = []
    behind_letter = False
    for byte in t:
        whole.append(small(byte) if behind_letter else capital(byte))
        behind_letter = is_letter(byte)
    return whole


def cased(how, t):
    if how == 0:
        return text_answer(all_small(t))
    if how == 1:
        return text_answer([capital(byte) for byte in t])
    if how == 2:
        return text_answer([other_case(byte) for byte in t])
    if how == 3:
        return text_answer(words_begun(t))
    return text_answer(t)


def trim(how, t, some):
    begin = 0
    end = len(t)
    if how & 1 != 0:
        while begin < end and t[begin] in some:
            begin += 1
    if how & 2 != 0:
        while end > begin and t[end - 1] in some:
            end -= 1
    return text_answer(t[begin:end])


def turn(t):
    return text_answer(list(reversed(t)))


def only(how, t, some):
    wanted = how == 0
    return text_answer([byte for byte in t if (byte in some) == wanted])


def mask(t, some):
    return [sum([1 << place for place, byte in enumerate(t) if byte in some])]


def order(a, b):
    # Lists compare as the document asks: by the first that differs, a beginning before what it begins.
    if a < b:
        return -1
    return 1 if a > b else 0


def compare(how, a, b):
    if how == 0:
        return [order(a, b)]
    if how == 1:
        return [order(all_small(a), all_small(b))]
    # Set ahead of the bytes, the lengths decide first.
    return [order([len(a)] + a, [len(b)] + b)]


def asked_of(p):
    asked = []
    place = 0
    while place < len(p):
        byte = p[place]
        if byte == ESCAPE and place + 1 < len(p):
            place += 1
            asked.append(p[place])
        elif byte == QUESTION_MARK:
            asked.append(ANY_BYTE)
        elif byte == STAR:
            asked.append(ANY_RUN)
        else:
            asked.append(byte)
        place += 1
    return asked


def like(t, p):
    # For each place of t: whether what p has asked for so far can end there. All places are followed side by side,
    # so nothing is tried again, however many stars p has.
    ends = [True] + [False] * len(t)
    for asked in asked_of(p):
        if asked == ANY_RUN:
            ends = [True in ends[:place + 1] for place in range(len(ends))]
        else:
            ends = [False] + [ends[place] and asked in (ANY_BYTE, byte) for place, byte in enumerate(t)]
    return [1 if ends[len(t)] else 0]


def is_base(base):
    return 2 <= base <= 36


def worth_of(byte):
    if ZERO <= byte <= ZERO + 9:
        return byte - ZERO
    return small(byte) - BEFORE_LETTERS if is_letter(byte) else NO_DIGIT


def digit_of(worth):
    return worth + ZERO if worth < 10 else worth + BEFORE_LETTERS


def number(base, t):
    if not is_base(base):
        return [-2]
    begin = 1 if len(t) > 0 and t[0] in (PLUS, MINUS) else 0
    worths = [worth_of(byte) for byte in t[begin:]]
    # Ahead of the range: what is no number is refused as such, however many digits it has.
    if len(worths) == 0 or max(worths) >= base:
        return [-3]
    value = 0
    for worth in worths:
        value = value * base + worth
    if t[0] == MINUS:
        value = -value
    return [0, value] if -(2 ** 63) <= value < 2 ** 63 else [-7]


def digits(v, base):
    if not is_base(base):
        return text_answer([])
    rest = abs(v)
    # From the last digit on; 0 has one too.
    found = [digit_of(rest % base)]
    while rest >= base:
        rest = rest // base
        found.append(digit_of(rest % base))
    if v < 0:
        found.append(MINUS)
    return text_answer(list(reversed(found)))


def hex_of(t):
    whole = []
    for byte in t:
        whole.extend([digit_of(byte // 16), digit_of(byte % 16)])
    return text_answer(whole)


def unhex(t):
    worths = [worth_of(byte) for byte in t]
    if len(t) % 2 != 0 or max(worths, default=0) >= 16:
        return text_answer([])
    return text_answer([worths[place] * 16 + worths[place + 1] for place in range(0, len(t), 2)])


def hash_of(t):
    mixed = 14695981039346656037
    for byte in t:
        mixed = (mixed ^ byte) * 1099511628211 % 2 ** 64
    return [mixed]


def texts_answer(rows):
    answer = [len(rows)]
    for row in rows:
        answer.extend(text_answer(row))
    return answer


def split(c, t):
    if c < 0 or c > 255:
        return [-2]
    pieces = [[]]
    for byte in t:
        if byte == c:
            pieces.append([])
        else:
            pieces[-1].append(byte)
    return texts_answer(pieces)


def sort(rows):
    # Lists by themselves stand in compare's order of how 0.
    return texts_answer(sorted(rows))
