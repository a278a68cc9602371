import itertools
import unittest

from exactlutes.intervals import add, is_interval, order, parts, sub, within
from support import (
    EQUAL_FIFTH, FIFTH, INTERVALS, NO_INTERVALS, OCTAVE, UNISON, GuardedList, check_answer, check_second_call,
    exact_parts, exact_side, interval_of_powers, opposite, ratio,
)

NEARLY_THE_UNISON = [
    [-92, -17, 21, 25, 1], [-92, 15, 85, -46, 1], [-9, 28, -37, 18, 1], [-84, 53, 0, 0, 1], [-92, -17, 21, 25, 24],
    [-9, 28, -37, 18, 23],
]


def expected_within(x):
    powers = ratio(x)
    return interval_of_powers([powers[0] - exact_parts(1, x)] + list(powers[1:]))


class Within(unittest.TestCase):
    def check_all(self, rows):
        for x, expected in rows:
            with self.subTest(x=x):
                check_answer(self, within(x), expected)

    def test_within_the_octave_already(self):
        self.check_all([(x, [1] + x) for x in (
            FIFTH, EQUAL_FIFTH, [2, -1, 0, 0, 1], [-2, 0, 1, 0, 1], [1, 0, 0, 0, 24], [23, 0, 0, 0, 24],
            [-4, 4, -1, 0, 1], [6, -2, 0, -1, 1], [0, 0, 1, 0, 4], [1, 1, 1, 1, 8], [-19, 12, 0, 0, 1],
        )])

    def test_the_unison(self):
        self.check_all([(UNISON, [1] + UNISON)])

    def test_whole_octaves_are_the_unison(self):
        self.check_all([([octaves, 0, 0, 0, 1], [1] + UNISON) for octaves in range(-99, 100)])

    def test_above_the_octave(self):
        self.check_all([
            ([0, 1, 0, 0, 1], [1, -1, 1, 0, 0, 1]),
            ([0, 0, 1, 0, 1], [1, -2, 0, 1, 0, 1]),
            ([0, 0, 0, 1, 1], [1, -2, 0, 0, 1, 1]),
            ([98, 1, 0, 0, 1], [1, -1, 1, 0, 0, 1]),
            ([25, 0, 0, 0, 24], [1, 1, 0, 0, 0, 24]),
            ([31, 0, 0, 0, 12], [1, 7, 0, 0, 0, 12]),
            ([95, 0, 0, 0, 24], [1, 23, 0, 0, 0, 24]),
            ([0, 12, 0, 0, 1], [1, -19, 12, 0, 0, 1]),
        ])

    def test_below_the_unison(self):
        self.check_all([
            ([1, -1, 0, 0, 1], [1, 2, -1, 0, 0, 1]),
            ([-1, 0, 0, 0, 24], [1, 23, 0, 0, 0, 24]),
            ([-7, 0, 0, 0, 12], [1, 5, 0, 0, 0, 12]),
            ([-99, 1, 0, 0, 1], [1, -1, 1, 0, 0, 1]),
            ([-25, 0, 0, 0, 24], [1, 23, 0, 0, 0, 24]),
            ([0, -12, 0, 0, 1], [1, 20, -12, 0, 0, 1]),
            ([4, -4, 1, 0, 1], [1, 5, -4, 1, 0, 1]),
            ([-95, 0, 0, 0, 24], [1, 1, 0, 0, 0, 24]),
        ])

    def test_just_above_and_just_below_whole_octaves(self):
        for x in NEARLY_THE_UNISON + [opposite(x) for x in NEARLY_THE_UNISON]:
            low = list(x)
            if exact_side(ratio(x)) < 0:
                low[0] += x[4]
            expected = [1] + low if abs(low[0]) <= 99 else [0]
            for octaves in range(-200, 201):
                moved = [x[0] + octaves * x[4]] + x[1:]
                if is_interval(moved) == [1]:
                    self.check_all([(moved, expected)])

    def test_edges_of_the_power_of_two(self):
        self.check_all([
            ([0, 62, 0, 0, 1], [1, -98, 62, 0, 0, 1]),
            ([0, 63, 0, 0, 1], [1, -99, 63, 0, 0, 1]),
            ([99, 63, 0, 0, 1], [1, -99, 63, 0, 0, 1]),
            ([0, -62, 0, 0, 1], [1, 99, -62, 0, 0, 1]),
            ([-99, -62, 0, 0, 1], [1, 99, -62, 0, 0, 1]),
            ([0, 0, 0, 38, 23], [1, -92, 0, 0, 38, 23]),
            ([0, 0, 0, -38, 23], [0]),
            ([0, 0, 0, -32, 23], [1, 92, 0, 0, -32, 23]),
            ([0, 0, 0, -33, 23], [0]),
        ])

    def test_the_power_of_two_would_be_too_large(self):
        self.check_all([(x, [0]) for x in (
            [0, 64, 0, 0, 1], [0, -63, 0, 0, 1], [99, 64, 0, 0, 1], [-99, -63, 0, 0, 1], [0, 99, 0, 0, 1],
            [0, -99, 0, 0, 1], [0, 99, 0, 0, 2], [0, 0, 99, 0, 23], [0, 0, 0, 99, 23], [0, 0, 0, -99, 23],
            [99, 99, 99, 99, 1], [-99, -99, -99, -99, 1], [99, 99, 99, 99, 23], [0, -6, 5, 68, 1],
        )])

    def test_many_intervals(self):
        grid = itertools.product((-99, -20, 0, 31), (-60, -1, 0, 40), (-7, 0, 35), (-33, 0, 2), (1, 2, 7, 12, 24))
        for five in grid:
            if is_interval(list(five)) == [1]:
                self.check_all([(list(five), expected_within(five))])
        self.check_all([(x, expected_within(x)) for x in INTERVALS])

    def test_no_interval(self):
        self.check_all([(x, [0]) for x in NO_INTERVALS])

    def test_it_differs_by_octaves_alone(self):
        seen = 0
        for x in INTERVALS + NEARLY_THE_UNISON:
            told = within(x)
            if told[0] == 1:
                seen += 1
                low = told[1:]
                self.assertEqual(is_interval(low), [1])
                self.assertEqual(low[1:], x[1:])
                self.assertEqual((x[0] - low[0]) % x[4], 0)
                self.assertIn(order(low, UNISON), ([1], [2]))
                self.assertEqual(order(low, OCTAVE), [0])
                self.assertEqual(parts(1, low), [0, 0])
                octaves = [parts(1, x)[1], 0, 0, 0, 1]
                self.assertEqual(sub(x, octaves), told)
                self.assertEqual(add(low, octaves), [1] + x)
                self.assertEqual(within(low), told)
        self.assertGreater(seen, 18)

    def test_octaves_more_or_less_change_nothing(self):
        for x in INTERVALS + NEARLY_THE_UNISON:
            for octaves in range(-5, 6):
                moved = add(x, [octaves, 0, 0, 0, 1])
                if moved[0] == 1:
                    self.assertEqual(within(moved[1:]), within(x))

    def test_what_is_handed_in_stays(self):
        for first in INTERVALS + NO_INTERVALS:
            x = GuardedList(first)
            within(x)
            self.assertEqual(list(x), first)

    def test_what_is_answered_is_a_new_list(self):
        x = list(FIFTH)
        answer = within(x)
        answer[1] = 77
        self.assertEqual(x, FIFTH)

    def test_a_second_call_answers_as_the_first(self):
        for x, expected in (
            (FIFTH, [1] + FIFTH), ([1, -1, 0, 0, 1], [1, 2, -1, 0, 0, 1]), ([0, 99, 0, 0, 1], [0]), ([1, 2], [0]),
        ):
            check_second_call(self, within, (x,), expected)

    def test_argument_by_name(self):
        check_answer(self, within(x=[0, 1, 0, 0, 1]), [1, -1, 1, 0, 0, 1])


if __name__ == "__main__":
    unittest.main()
