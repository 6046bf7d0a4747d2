import itertools
import unittest

from calls import LEAST, MOST, CallCase, of
from shorttextsdesk.texts import compare

OTHER_HOWS = (2, -1, -2, 3, 4, 256, 257, LEAST, LEAST + 1, MOST)
ALL_HOWS = (0, 1) + OTHER_HOWS
BY_BYTES = (0,) + OTHER_HOWS


class CompareTest(CallCase):
    def compared(self, hows, a, b, wanted):
        """Each how answers what is wanted, and the other way round its opposite."""
        for how in hows:
            self.check(compare, (how, a, b), [wanted])
            self.check(compare, (how, b, a), [-wanted])

    def written(self, hows, a, b, wanted):
        self.compared(hows, of(a), of(b), wanted)

    def test_equal_texts(self):
        for t in ("", "a", "abc", "Ab[", "\0", "\xff", "z" * 31):
            self.written(ALL_HOWS, t, t, 0)

    def test_a_beginning_comes_before_what_it_begins(self):
        self.written(ALL_HOWS, "ab", "abc", -1)
        self.written(ALL_HOWS, "a", "a" * 31, -1)
        self.written(ALL_HOWS, "a" * 30, "a" * 31, -1)
        self.compared(ALL_HOWS, [5], [5, 0], -1)

    def test_the_empty_text_comes_before_all_others(self):
        self.written(ALL_HOWS, "", "a", -1)
        self.compared(ALL_HOWS, [], [0], -1)
        self.compared(ALL_HOWS, [], [255] * 31, -1)

    def test_a_difference_at_the_first_byte(self):
        self.written(ALL_HOWS, "axx", "bxx", -1)
        self.written(ALL_HOWS, "azz", "baa", -1)

    def test_a_difference_at_the_last_byte(self):
        self.written(ALL_HOWS, "xxa", "xxb", -1)
        self.written(ALL_HOWS, "x" * 30 + "a", "x" * 30 + "b", -1)

    def test_only_the_first_difference_counts(self):
        self.written(ALL_HOWS, "xaz", "xba", -1)

    def test_bytes_from_128_on(self):
        self.compared(ALL_HOWS, [127], [128], -1)
        self.compared(ALL_HOWS, [1], [255], -1)
        self.compared(ALL_HOWS, [122], [200], -1)
        self.compared(ALL_HOWS, [128], [255], -1)
        self.compared(ALL_HOWS, [7, 0], [7, 255], -1)
        # Beyond ASCII there are no letters, so these have no small form.
        self.compared(ALL_HOWS, [192], [224], -1)

    def test_by_bytes_the_length_counts_last(self):
        self.written((0, 1), "b", "abc", 1)
        self.written((0, 1), "ab", "b", -1)
        self.written((0, 1), "b", "a" * 31, 1)
        self.compared((0, 1), [255], [0] * 31, 1)

    def test_by_bytes_capitals_come_before_small_letters(self):
        self.written((0,), "A", "a", -1)
        self.written((0,), "Z", "a", -1)
        self.written((0,), "B", "a", -1)
        self.written((0,), "abC", "abc", -1)

    def test_small_texts_that_differ_in_capitals_alone(self):
        self.written((1,), "A", "a", 0)
        self.written((1,), "Z", "z", 0)
        self.written((1,), "aBcD-9", "AbCd-9", 0)
        self.written((1,), "A" * 31, "a" * 31, 0)
        for letter in range(65, 91):
            self.compared((1,), [letter], [letter + 32], 0)

    def test_small_letters_by_the_alphabet(self):
        self.written((1,), "a", "B", -1)
        self.written((1,), "A", "b", -1)
        self.written((1,), "Z", "a", 1)
        self.written((1,), "AbC", "aBd", -1)

    def test_small_signs_between_the_capitals_and_the_small_letters(self):
        for sign in range(91, 97):
            self.compared((1,), [sign], of("a"), -1)
            self.compared((1,), [sign], of("A"), -1)
            self.compared((1,), [sign], of("Z"), -1)
            self.compared((1,), of("x") + [sign], of("XA"), -1)
            self.compared((0,), [sign], of("Z"), 1)
            self.compared((0,), [sign], of("a"), -1)
        self.written((1,), "@", "A", -1)
        self.written((1,), "{", "Z", 1)
        self.written((1,), "@", "`", -1)
        self.written((1,), "[", "{", -1)

    def test_small_texts_of_another_length(self):
        self.written((1,), "AB", "abc", -1)
        self.written((1,), "ab", "ABC", -1)
        self.written((1,), "B", "abc", 1)
        self.written((1,), "b", "ABC", 1)

    def test_another_how_puts_the_shorter_first(self):
        self.written(OTHER_HOWS, "z", "ab", -1)
        self.written(OTHER_HOWS, "zz", "aaa", -1)
        self.written(OTHER_HOWS, "b", "a" * 31, -1)
        self.compared(OTHER_HOWS, [255] * 30, [0] * 31, -1)
        self.compared(OTHER_HOWS, [255], [0, 0], -1)

    def test_another_how_of_the_same_length_by_bytes(self):
        self.written(OTHER_HOWS, "ab", "ac", -1)
        self.written(OTHER_HOWS, "A", "a", -1)
        self.written(OTHER_HOWS, "Z", "a", -1)
        self.written(OTHER_HOWS, "abC", "abc", -1)
        self.written(OTHER_HOWS, "Z", "[", -1)

    def test_all_pairs_of_bytes(self):
        for a, b in itertools.product(range(256), repeat=2):
            small_a, small_b = bytes([a]).lower(), bytes([b]).lower()
            by_bytes = [(a > b) - (a < b)]
            by_small = [(small_a > small_b) - (small_a < small_b)]
            answers = [compare(how, [a], [b]) for how in (0, 1, 2)]
            self.assertEqual(answers, [by_bytes, by_small, by_bytes], (a, b))

    def test_all_short_texts(self):
        texts = [t for long_t in range(4) for t in itertools.product(b"ABa", repeat=long_t)]
        for a, b in itertools.product(texts, repeat=2):
            keys = ((bytes(a), bytes(b)), (bytes(a).lower(), bytes(b).lower()), ((len(a), a), (len(b), b)))
            for how, (first, second) in enumerate(keys):
                self.check(compare, (how, list(a), list(b)), [(first > second) - (first < second)])


if __name__ == "__main__":
    unittest.main()
