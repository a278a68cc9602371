import itertools
import unittest

from exactlutes.intervals import add, is_interval, order, parts
from support import (
    EQUAL_FIFTH, FIFTH, GREATEST, INTERVALS, LEAST, NO_INTERVALS, OCTAVE, UNISON, GuardedList, check_answer,
    check_second_call, exact_parts, exact_side, ratio,
)

# n, an interval that lies less than a millionth of a part above so many parts, and how many.
JUST_ABOVE = [
    (1200, [0, -17, 27, 99, 1], 376411),
    (1200, [0, 69, -80, 85, 1], 194680),
    (1200, [19, -17, 27, 99, 23], 17357),
    (1200, [21, 69, -80, 85, 23], 9560),
    (1200, [0, -17, 27, 99, 7], 53773),
    (1199, [8, 20, 96, -33, 24], 8491),
    (53, [17, 48, -90, 93, 19], 405),
    (700, [0, -47, 4, 53, 11], 5319),
    (1, [0, -6, 5, 68, 1], 193),
    (1, [23, -6, 5, 68, 24], 9),
    (12, [0, 27, -43, -50, 1], -2369),
    (12, [0, -53, 92, -79, 1], -1106),
    (1, [0, -11, 16, -43, 1], -101),
    (1, [5, -11, 16, -43, 24], -4),
    (700, [1, 18, 39, -55, 11], -2184),
    (1199, [19, 14, -39, -27, 24], -6253),
]
# The same, but it lies that little below so many parts.
JUST_BELOW = [
    (1200, [6, -18, -39, 55, 24], 2066),
    (1200, [0, 17, -27, -99, 1], -376411),
    (1200, [4, 17, -27, -99, 23], -16157),
    (1200, [1, -69, 80, -85, 7], -27640),
    (1199, [5, -14, 39, 27, 24], 7452),
    (1199, [16, -20, -96, 33, 24], -7292),
    (53, [6, -60, 45, 41, 19], 364),
    (700, [10, -18, -39, 55, 11], 2884),
    (12, [0, -27, 43, 50, 1], 2369),
    (12, [0, 53, -92, 79, 1], 1106),
    (1, [0, 11, -16, 43, 1], 101),
    (1, [19, 11, -16, 43, 24], 5),
    (1, [0, 6, -5, -68, 1], -193),
    (1, [1, 6, -5, -68, 24], -8),
]


class Parts(unittest.TestCase):
    def check_all(self, rows):
        for n, x, expected in rows:
            with self.subTest(n=n, x=x):
                check_answer(self, parts(n, x), expected)

    def test_cents_of_well_known_intervals(self):
        self.check_all([
            (1200, FIFTH, [0, 701]),
            (1200, EQUAL_FIFTH, [0, 700]),
            (1200, OCTAVE, [0, 1200]),
            (1200, [2, -1, 0, 0, 1], [0, 498]),
            (1200, [-2, 0, 1, 0, 1], [0, 386]),
            (1200, [0, 0, 1, 0, 4], [0, 696]),
            (1200, [-4, 4, -1, 0, 1], [0, 21]),
            (1200, [-19, 12, 0, 0, 1], [0, 23]),
            (1200, [6, -2, 0, -1, 1], [0, 27]),
            (1200, [0, 0, 0, 1, 1], [0, 3368]),
        ])

    def test_other_numbers_of_parts(self):
        self.check_all([
            (1, FIFTH, [0, 0]), (2, FIFTH, [0, 1]), (3, FIFTH, [0, 1]), (5, FIFTH, [0, 2]), (7, FIFTH, [0, 4]),
            (12, FIFTH, [0, 7]), (19, FIFTH, [0, 11]), (31, FIFTH, [0, 18]), (53, FIFTH, [0, 31]),
            (1, [0, 1, 0, 0, 1], [0, 1]), (12, [0, 1, 0, 0, 1], [0, 19]), (1, [0, 0, 0, 1, 1], [0, 2]),
            (1, EQUAL_FIFTH, [0, 0]), (11, EQUAL_FIFTH, [0, 6]), (13, EQUAL_FIFTH, [0, 7]), (1199, OCTAVE, [0, 1199]),
        ])

    def test_just_so_many_parts(self):
        self.check_all([
            (12, EQUAL_FIFTH, [0, 7]), (24, EQUAL_FIFTH, [0, 14]), (1200, EQUAL_FIFTH, [0, 700]),
            (12, [-7, 0, 0, 0, 12], [0, -7]), (24, [-7, 0, 0, 0, 12], [0, -14]),
            (1200, [-7, 0, 0, 0, 12], [0, -700]), (6, [1, 0, 0, 0, 2], [0, 3]), (6, [-1, 0, 0, 0, 2], [0, -3]),
            (1200, [1, 0, 0, 0, 24], [0, 50]), (1200, [-1, 0, 0, 0, 24], [0, -50]),
        ])
        for n in list(range(1, 60)) + [99, 100, 600, 1199, 1200]:
            for octaves in (-99, -98, -3, -1, 0, 1, 2, 99):
                self.check_all([(n, [octaves, 0, 0, 0, 1], [0, octaves * n])])
        for d in range(1, 25):
            for power in (-99, -5, -1, 0, 1, 7, 98):
                if is_interval([power, 0, 0, 0, d]) == [1]:
                    self.check_all([(n, [power, 0, 0, 0, d], [0, power * n // d]) for n in range(1, 1201, 23)])

    def test_the_unison(self):
        self.check_all([(n, UNISON, [0, 0]) for n in range(1, 1201)])

    def test_below_the_unison(self):
        self.check_all([
            (1200, [1, -1, 0, 0, 1], [0, -702]),
            (1, [1, -1, 0, 0, 1], [0, -1]),
            (12, [1, -1, 0, 0, 1], [0, -8]),
            (1, [-1, 0, 0, 0, 24], [0, -1]),
            (1, [-1, 0, 0, 0, 1], [0, -1]),
            (1200, [4, -4, 1, 0, 1], [0, -22]),
            (1, [0, -1, 0, 0, 1], [0, -2]),
            (11, [-7, 0, 0, 0, 12], [0, -7]),
            (13, [-7, 0, 0, 0, 12], [0, -8]),
        ])

    def test_just_above_and_just_below(self):
        self.check_all([(n, x, [0, m]) for n, x, m in JUST_ABOVE])
        self.check_all([(n, x, [0, m - 1]) for n, x, m in JUST_BELOW])
        # A little above the unison, and a little below it.
        for x in ([-92, -17, 21, 25, 1], [-92, 15, 85, -46, 1], [-9, 28, -37, 18, 1], [-92, -17, 21, 25, 24]):
            m = 0 if exact_side(ratio(x)) > 0 else -1
            self.check_all([(n, x, [0, m]) for n in (1, 2, 12, 53, 1199, 1200)])
            self.check_all([(n, [-p for p in x[:4]] + [x[4]], [0, -1 - m]) for n in (1, 2, 12, 53, 1199, 1200)])

    def test_largest_and_smallest_intervals(self):
        for n in (1, 12, 1200):
            for powers in itertools.product((-99, 99), repeat=4):
                for d in (1, 23):
                    x = list(powers) + [d]
                    self.check_all([(n, x, [0, exact_parts(n, x)])])
        self.check_all([
            (1, [99, 99, 99, 99, 1], [0, 763]),
            (1, [-99, -99, -99, -99, 1], [0, -764]),
            (1200, [99, 99, 99, 99, 1], [0, 916452]),
            (1200, [-99, -99, -99, -99, 1], [0, -916453]),
        ])

    def test_many_intervals(self):
        for x in INTERVALS + [x for n, x, m in JUST_ABOVE + JUST_BELOW]:
            for n in (1, 2, 5, 12, 31, 100, 257):
                self.check_all([(n, x, [0, exact_parts(n, x)])])

    def test_the_greatest_that_do_not_go_beyond(self):
        seen = 0
        for x, n in itertools.product(INTERVALS, range(1, 25)):
            m = parts(n, x)[1]
            for count in (m, m + 1):
                told = [count, 0, 0, 0, n]
                if is_interval(told) == [1]:
                    seen += 1
                    self.assertIn(order(told, x), ([0], [1]) if count == m else ([2],))
        self.assertGreater(seen, 200)

    def test_an_octave_more_has_as_many_parts_more(self):
        for x, n in itertools.product(INTERVALS, (1, 12, 53, 1200)):
            upon = add(x, OCTAVE)
            if upon[0] == 1:
                self.check_all([(n, upon[1:], [0, parts(n, x)[1] + n])])

    def test_number_of_parts_out_of_its_range(self):
        for n in (0, -1, -2, -12, -1200, 1201, 1202, 2400, LEAST, LEAST + 1, GREATEST - 1, GREATEST):
            self.check_all([(n, x, [-1]) for x in INTERVALS])

    def test_edges_of_the_number_of_parts(self):
        self.check_all([(1, OCTAVE, [0, 1]), (1200, OCTAVE, [0, 1200]), (1201, OCTAVE, [-1]), (0, OCTAVE, [-1])])

    def test_no_interval(self):
        for n, x in itertools.product((LEAST, -1, 0, 1, 12, 1200, 1201, GREATEST), NO_INTERVALS):
            self.check_all([(n, x, [-1])])

    def test_what_is_handed_in_stays(self):
        for first, n in itertools.product(INTERVALS + NO_INTERVALS, (-1, 0, 1, 12, 1200, 1201)):
            x = GuardedList(first)
            parts(n, x)
            self.assertEqual(list(x), first)

    def test_a_second_call_answers_as_the_first(self):
        for n, x, expected in (
            (1200, FIFTH, [0, 701]), (12, [-7, 0, 0, 0, 12], [0, -7]), (0, FIFTH, [-1]), (12, [1, 2], [-1]),
        ):
            check_second_call(self, parts, (n, x), expected)

    def test_arguments_by_name(self):
        check_answer(self, parts(x=FIFTH, n=12), [0, 7])


if __name__ == "__main__":
    unittest.main()
