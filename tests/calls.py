"""What the tests of all calls share."""

import signal
import unittest

# Each test ends in far less; a call that goes on and on fails its test then.
SECONDS_FOR_A_TEST = 20
# The document's functions, each with its parameters.
INTERFACE = {
    "join": ["a", "b"],
    "part": ["begin", "n", "t"],
    "find": ["begin", "t", "p"],
    "last": ["t", "p"],
    "count": ["t", "p"],
    "replace": ["t", "p", "r"],
    "cased": ["how", "t"],
    "trim": ["how", "t", "some"],
    "turn": ["t"],
    "only": ["how", "t", "some"],
    "mask": ["t", "some"],
    "compare": ["how", "a", "b"],
    "like": ["t", "p"],
    "number": ["base", "t"],
    "digits": ["v", "base"],
    "hex_of": ["t"],
    "unhex": ["t"],
    "hash_of": ["t"],
    "split": ["c", "t"],
    "sort": ["rows"],
}
# The least and the greatest int of the document.
LEAST = -2147483648
MOST = 2147483647
# The least and the greatest long.
LEAST_LONG = -9223372036854775808
MOST_LONG = 9223372036854775807
ALL_BASES = range(2, 37)
NO_BASES = (-1, 0, 1, 37, LEAST, MOST, -2, -10, -16, -36, 38, 64, 256, LEAST + 10, MOST - 1)
DIGITS = "0123456789abcdefghijklmnopqrstuvwxyz"
# By base: 2^63 - 1, 2^63 and 2^63 + 1. Below base 5 they have more than 31 digits.
AROUND_THE_EDGE = {
    5: ("1104332401304422434310311212", "1104332401304422434310311213", "1104332401304422434310311214"),
    8: ("777777777777777777777", "1000000000000000000000", "1000000000000000000001"),
    9: ("67404283172107811827", "67404283172107811828", "67404283172107811830"),
    10: ("9223372036854775807", "9223372036854775808", "9223372036854775809"),
    16: ("7fffffffffffffff", "8000000000000000", "8000000000000001"),
    19: ("ba643dci0ffeehh", "ba643dci0ffeehi", "ba643dci0ffeei0"),
    32: ("7vvvvvvvvvvvv", "8000000000000", "8000000000001"),
    35: ("2pijmikexrxp7", "2pijmikexrxp8", "2pijmikexrxp9"),
    36: ("1y2p0ij32e8e7", "1y2p0ij32e8e8", "1y2p0ij32e8e9"),
}


def refuse(self, *args, **kwargs):
    raise AssertionError("what was handed in was changed")


class Guarded(list):
    """A list that can't be changed, not for a while either."""

    append = clear = extend = insert = pop = remove = reverse = sort = refuse
    __setitem__ = __delitem__ = __iadd__ = __imul__ = refuse


def copied(value):
    return [copied(within) for within in value] if isinstance(value, list) else value


def guarded(value):
    return Guarded([guarded(within) for within in value]) if isinstance(value, list) else value


def of(text):
    """The bytes of a written text."""
    return list(text.encode("latin-1"))


def text_answer(wanted):
    return [len(wanted)] + wanted


def texts_answer(wanted):
    return [len(wanted)] + [value for row in wanted for value in text_answer(row)]


def too_long(number, frame):
    raise AssertionError("a call did not come to an end")


class CallCase(unittest.TestCase):
    def setUp(self):
        before = signal.signal(signal.SIGALRM, too_long)
        self.addCleanup(signal.signal, signal.SIGALRM, before)
        self.addCleanup(signal.alarm, 0)
        signal.alarm(SECONDS_FOR_A_TEST)

    def same(self, answer, wanted, call, args):
        # Of long lists, assertEqual takes minutes to tell the difference.
        if answer != wanted:
            self.fail("{}{} answered {}, not {}".format(call.__name__, args, answer, wanted))

    def check(self, call, args, wanted):
        """The call answers what is wanted, each time, and leaves what was handed in as it was."""
        handed = [copied(arg) for arg in args]
        first = call(*handed)
        self.same(first, wanted, call, args)
        self.assertEqual(handed, list(args))
        self.assertIs(type(first), list)
        for value in first:
            self.assertIs(type(value), int)
        # Were the answer kept, or a list that was handed in, its change would show below.
        first.append(77)
        first[0] = 99
        self.assertEqual(handed, list(args))
        self.same(call(*handed), wanted, call, args)
        self.same(call(*[guarded(arg) for arg in args]), wanted, call, args)
